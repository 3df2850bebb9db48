/- The walk of the law CrcSums: whatever the bytes, the sum and the number, it answers true, and nothing that lay in memory has turned. -/
import Derived.Test.YtdokhiikglcpcaaLits
namespace Go.Proofs.Ytdokhiikglcpcaa
open Go.RowKit Go.IntWalk Crcm
set_option linter.unusedVariables false

set_option maxRecDepth 100000 in
set_option maxHeartbeats 2000000 in
theorem sums_out (a : Option Addr) (len cap : Nat) (s n : Int) (w : World)
    (h : decide ((3000 : Int) < (len : Int)) = true ∨ (decide ((3000 : Int) < (len : Int)) = false ∧ decide (3000 < n) = true)) :
    Calls Try.prog 3 #[.slice a len cap, .int .u32 s, .int .i64 n] w fun e w' => e = .returned (.bool true) ∧ Below w.heap.size w w' := by
  rcases h with h1 | ⟨h1, h2⟩
  all_goals
    go_enter Try.func3, Try.ntmps3
    go_wp2_with fail
    refine (alive_any w).mono ?_
    rintro e w1 ⟨rfl, hB1⟩
    go_wp2
    go_ret
    exact ⟨rfl, hB1⟩

set_option maxRecDepth 100000 in
set_option maxHeartbeats 2000000 in
theorem sums_below (a : Option Addr) (len cap : Nat) (zs : List Int) (s n : Int) (x : BitVec 32) (hs : Hid (s = U x)) (w : World) (hb : Bts w.heap.size w (.slice a len cap) zs)
    (h1 : decide ((3000 : Int) < (len : Int)) = false) (h2 : n ≤ 3000) (hn : n < 0) :
    Calls Try.prog 3 #[.slice a len cap, .int .u32 s, .int .i64 n] w fun e w' => e = .returned (.bool true) ∧ Below w.heap.size w w' := by
  obtain rfl := hb.len
  have hl : zs.length ≤ 3000 := by simp at h1; omega
  go_enter Try.func3, Try.ntmps3
  go_wp2_with (first
    | (at_builtin; refine wpList_append_bts _ rfl (.tmp 17) (.tmp 18) rfl w.heap.size w.heap.size _ _ _ [] zs rfl rfl (lit_none w _ (Nat.le_refl _)) (hb.below ((Below.refl _ _).alloc (Nat.le_refl _) _)) (by omega) (by simp) ?_; intro v1 w1 hr1 hg1; have hB1 : Below w.heap.size w w1 := ((Below.refl _ w).alloc (Nat.le_refl _) _).grown hg1 (by simp) (fun k e => by cases e; exact Nat.le_refl _); have hs1 := hB1.size)
    | (at_builtin; go_must (refine wpList_append_bts _ rfl (.tmp 19) (.tmp 20) rfl w.heap.size (w1.heap.size + 1) _ _ _ _ [7] rfl rfl (hr1.alloc _) (by rw [← World.size_alloc]; exact lit_bts w1 7 (by decide)) (by simp; omega) (by simp; omega) ?_); intro v2 w2 hr2 hg2; have hB2 : Below w.heap.size w w2 := (hB1.alloc hs1 _).grown hg2 (by simp; omega) (fun k e => (hr1.lt k e).1); obtain ⟨g2, c2, rfl, _⟩ := own_some hr2 (by simp); obtain ⟨sa, hsl, bo⟩ := run_cut (Bts.of_own hr2 (by intro z hz; simp at hz; rcases hz with h | rfl; exact hb.2 z h; omega)) zs.length (by omega) (by simp; omega); obtain ⟨v3, w3, hrun3, hb3, hB3⟩ := made w2 0 (by omega) (by omega)))
  rw [Int.toNat_natCast, List.nil_append, List.take_left' rfl] at bo
  have hB03 := hB2.trans (hB3.mono hB2.size)
  refine (refmore_any s x hs v3 _ w3 hb3).mono ?_
  rintro e w4 ⟨d1, rfl, hd1, rfl⟩
  clear hr1 hg1 hr2 hg2 hsl hrun3
  go_wp2_with fail
  refine (alive_any w3).mono ?_
  rintro e w4 ⟨rfl, hB4⟩
  have hB04 := hB03.trans (hB4.mono hB03.size)
  have hB24 := hB3.trans (hB4.mono hB3.size)
  go_wp2_with fail
  refine (sum_any _ zs w4 ((bo.below hB24).mono hB24.size)).mono ?_
  rintro e w5 ⟨d2, rfl, hd2, hB5⟩
  have hB05 := hB04.trans (hB5.mono hB04.size)
  have hB25 := hB24.trans (hB5.mono hB24.size)
  go_wp2_with fail
  refine (refsum_any _ zs w5 ((hb.below hB05).mono hB05.size)).mono ?_
  rintro e w6 ⟨d3, rfl, hd3, rfl⟩
  have e1 : d3 = d2 := by rw [hd3.out, hd2.out]
  subst e1
  go_wp2_with fail
  refine (more_any s x hs _ zs w5 ((bo.below hB25).mono hB25.size)).mono ?_
  rintro e w6 ⟨d4, rfl, hd4, hB6⟩
  have hB06 := hB05.trans (hB6.mono hB05.size)
  have hB26 := hB25.trans (hB6.mono hB25.size)
  go_wp2_with fail
  refine (refmore_any s x hs _ zs w6 ((hb.below hB06).mono hB06.size)).mono ?_
  rintro e w7 ⟨d5, rfl, hd5, rfl⟩
  have e2 : d5 = d4 := by rw [hd5.out, hd4.out]
  subst e2
  go_wp2_with fail
  refine (noughts_any s n x hs (by omega) w6).mono ?_
  rintro e w7 ⟨d6, rfl, hd6, rfl⟩
  have e3 : d6 = d1 := by rw [hd6.out, hd1.out, noughts_more, bts_noughts]; rw [show n.toNat = 0 from by omega]; rfl
  subst e3
  have k1 := run_conv (bo.below hB26)
  have k2 := run_conv (hb.below hB06)
  go_wp2
  go_ret
  exact ⟨rfl, hB06⟩
set_option maxRecDepth 100000 in
set_option maxHeartbeats 2000000 in
theorem sums_in (a : Option Addr) (len cap : Nat) (zs : List Int) (s n : Int) (x : BitVec 32) (hs : Hid (s = U x)) (w : World) (hb : Bts w.heap.size w (.slice a len cap) zs)
    (h1 : decide ((3000 : Int) < (len : Int)) = false) (h2 : n ≤ 3000) (hn : 0 ≤ n) :
    Calls Try.prog 3 #[.slice a len cap, .int .u32 s, .int .i64 n] w fun e w' => e = .returned (.bool true) ∧ Below w.heap.size w w' := by
  obtain rfl := hb.len
  have hl : zs.length ≤ 3000 := by simp at h1; omega
  go_enter Try.func3, Try.ntmps3
  go_wp2_with (first
    | (at_builtin; refine wpList_append_bts _ rfl (.tmp 17) (.tmp 18) rfl w.heap.size w.heap.size _ _ _ [] zs rfl rfl (lit_none w _ (Nat.le_refl _)) (hb.below ((Below.refl _ _).alloc (Nat.le_refl _) _)) (by omega) (by simp) ?_; intro v1 w1 hr1 hg1; have hB1 : Below w.heap.size w w1 := ((Below.refl _ w).alloc (Nat.le_refl _) _).grown hg1 (by simp) (fun k e => by cases e; exact Nat.le_refl _); have hs1 := hB1.size)
    | (at_builtin; go_must (refine wpList_append_bts _ rfl (.tmp 19) (.tmp 20) rfl w.heap.size (w1.heap.size + 1) _ _ _ _ [7] rfl rfl (hr1.alloc _) (by rw [← World.size_alloc]; exact lit_bts w1 7 (by decide)) (by simp; omega) (by simp; omega) ?_); intro v2 w2 hr2 hg2; have hB2 : Below w.heap.size w w2 := (hB1.alloc hs1 _).grown hg2 (by simp; omega) (fun k e => (hr1.lt k e).1); obtain ⟨g2, c2, rfl, _⟩ := own_some hr2 (by simp); obtain ⟨sa, hsl, bo⟩ := run_cut (Bts.of_own hr2 (by intro z hz; simp at hz; rcases hz with h | rfl; exact hb.2 z h; omega)) zs.length (by omega) (by simp; omega); obtain ⟨v3, w3, hrun3, hb3, hB3⟩ := made w2 n (by omega) (by omega)))
  rw [Int.toNat_natCast, List.nil_append, List.take_left' rfl] at bo
  have hB03 := hB2.trans (hB3.mono hB2.size)
  refine (refmore_any s x hs v3 _ w3 hb3).mono ?_
  rintro e w4 ⟨d1, rfl, hd1, rfl⟩
  clear hr1 hg1 hr2 hg2 hsl hrun3
  go_wp2_with fail
  refine (alive_any w3).mono ?_
  rintro e w4 ⟨rfl, hB4⟩
  have hB04 := hB03.trans (hB4.mono hB03.size)
  have hB24 := hB3.trans (hB4.mono hB3.size)
  go_wp2_with fail
  refine (sum_any _ zs w4 ((bo.below hB24).mono hB24.size)).mono ?_
  rintro e w5 ⟨d2, rfl, hd2, hB5⟩
  have hB05 := hB04.trans (hB5.mono hB04.size)
  have hB25 := hB24.trans (hB5.mono hB24.size)
  go_wp2_with fail
  refine (refsum_any _ zs w5 ((hb.below hB05).mono hB05.size)).mono ?_
  rintro e w6 ⟨d3, rfl, hd3, rfl⟩
  have e1 : d3 = d2 := by rw [hd3.out, hd2.out]
  subst e1
  go_wp2_with fail
  refine (more_any s x hs _ zs w5 ((bo.below hB25).mono hB25.size)).mono ?_
  rintro e w6 ⟨d4, rfl, hd4, hB6⟩
  have hB06 := hB05.trans (hB6.mono hB05.size)
  have hB26 := hB25.trans (hB6.mono hB25.size)
  go_wp2_with fail
  refine (refmore_any s x hs _ zs w6 ((hb.below hB06).mono hB06.size)).mono ?_
  rintro e w7 ⟨d5, rfl, hd5, rfl⟩
  have e2 : d5 = d4 := by rw [hd5.out, hd4.out]
  subst e2
  go_wp2_with fail
  refine (noughts_any s n x hs (by omega) w6).mono ?_
  rintro e w7 ⟨d6, rfl, hd6, rfl⟩
  have e3 : d6 = d1 := by rw [hd6.out, hd1.out, noughts_more, bts_noughts]
  subst e3
  have k1 := run_conv (bo.below hB26)
  have k2 := run_conv (hb.below hB06)
  go_wp2
  go_ret
  exact ⟨rfl, hB06⟩
theorem sums_walk (a : Option Addr) (len cap : Nat) (zs : List Int) (s n : Int) (w : World) (hb : Bts w.heap.size w (.slice a len cap) zs) (h0 : 0 ≤ s) (h1 : s < 4294967296) :
    Calls Try.prog 3 #[.slice a len cap, .int .u32 s, .int .i64 n] w fun e w' => e = .returned (.bool true) ∧ Below w.heap.size w w' := by
  obtain ⟨x, hx⟩ := U_of h0 h1
  by_cases c1 : (3000 : Int) < (len : Int)
  · exact sums_out a len cap s n w (.inl (by simpa using c1))
  · have c1' : decide ((3000 : Int) < (len : Int)) = false := by simpa using c1
    by_cases c2 : 3000 < n
    · exact sums_out a len cap s n w (.inr ⟨c1', by simpa using c2⟩)
    · by_cases c3 : n < 0
      · exact sums_below a len cap zs s n x hx w hb c1' (by omega) c3
      · exact sums_in a len cap zs s n x hx w hb c1' (by omega) (by omega)
end Go.Proofs.Ytdokhiikglcpcaa
