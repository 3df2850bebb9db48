/- The walk of the law CrcPieces: whatever the three lists of bytes, it answers true, and nothing that lay in memory has turned. -/
import Derived.Test.YtdokhiikglcpcaaLater
namespace Go.Proofs.Ytdokhiikglcpcaa
open Go.RowKit Go.IntWalk Crcm
set_option linter.unusedVariables false

theorem bts_append (xs ys : List Int) : bts (xs ++ ys) = bts xs ++ bts ys := List.map_append
theorem bts_length (xs : List Int) : (bts xs).length = xs.length := List.length_map ..
theorem pieces_left (xs ys zs : List Int) : sum (bts (xs ++ ys ++ zs)) = join (join (sum (bts xs)) (sum (bts ys)) (ys.length : Int).toNat) (sum (bts zs)) (zs.length : Int).toNat := by
  rw [bts_append, sum_join, bts_append, sum_join, bts_length, bts_length, Int.toNat_natCast, Int.toNat_natCast]
theorem pieces_right (xs ys zs : List Int) : sum (bts (xs ++ ys ++ zs)) = join (sum (bts xs)) (join (sum (bts ys)) (sum (bts zs)) (zs.length : Int).toNat) ((ys.length : Int) + (zs.length : Int)).toNat := by
  rw [pieces_left, join_join]
  congr 1
theorem pieces_more (xs ys zs : List Int) : sum (bts (xs ++ ys ++ zs)) = more (more (sum (bts xs)) (bts ys)) (bts zs) := by
  rw [bts_append, sum_append, bts_append, sum_append]

set_option maxRecDepth 100000 in
set_option maxHeartbeats 2000000 in
theorem pieces_out (a b c : Option Addr) (la lb lc ca cb cc : Nat) (w : World)
    (h : decide (3000 < (la : Int)) = true ∨ (decide (3000 < (la : Int)) = false ∧ decide (3000 < (lb : Int)) = true) ∨ (decide (3000 < (la : Int)) = false ∧ decide (3000 < (lb : Int)) = false ∧ decide (3000 < (lc : Int)) = true)) :
    Calls Try.prog 4 #[.agg #[.slice a la ca, .slice b lb cb, .slice c lc cc]] w fun e w' => e = .returned (.bool true) ∧ Below w.heap.size w w' := by
  rcases h with h1 | ⟨h1, h2⟩ | ⟨h1, h2, h3⟩
  · go_enter Try.func4, Try.ntmps4
    go_wp2
    refine wp_loop_rounds 1 ?_
    rw [rounds_succ]
    go_wp2_with fail
    refine (alive_any _).mono ?_
    rintro e w1 ⟨rfl, hB1⟩
    go_wp2
    go_ret
    exact ⟨rfl, ((Below.refl _ w).alloc (Nat.le_refl _) _).trans (hB1.mono (by simp))⟩
  · go_enter Try.func4, Try.ntmps4
    go_wp2
    refine wp_loop_rounds 2 ?_
    rw [rounds_succ]
    go_wp2_with fail
    rw [rounds_succ]
    go_wp2_with fail
    refine (alive_any _).mono ?_
    rintro e w1 ⟨rfl, hB1⟩
    go_wp2
    go_ret
    exact ⟨rfl, ((Below.refl _ w).alloc (Nat.le_refl _) _).trans (hB1.mono (by simp))⟩
  · go_enter Try.func4, Try.ntmps4
    go_wp2
    refine wp_loop_rounds 3 ?_
    rw [rounds_succ]
    go_wp2_with fail
    rw [rounds_succ]
    go_wp2_with fail
    rw [rounds_succ]
    go_wp2_with fail
    refine (alive_any _).mono ?_
    rintro e w1 ⟨rfl, hB1⟩
    go_wp2
    go_ret
    exact ⟨rfl, ((Below.refl _ w).alloc (Nat.le_refl _) _).trans (hB1.mono (by simp))⟩
set_option maxRecDepth 100000 in
set_option maxHeartbeats 4000000 in
theorem pieces_in (a b c : Option Addr) (la lb lc ca cb cc : Nat) (xs ys zs : List Int) (w : World)
    (hx : Bts w.heap.size w (.slice a la ca) xs) (hy : Bts w.heap.size w (.slice b lb cb) ys) (hz : Bts w.heap.size w (.slice c lc cc) zs)
    (h1 : decide (3000 < (la : Int)) = false) (h2 : decide (3000 < (lb : Int)) = false) (h3 : decide (3000 < (lc : Int)) = false) :
    Calls Try.prog 4 #[.agg #[.slice a la ca, .slice b lb cb, .slice c lc cc]] w fun e w' => e = .returned (.bool true) ∧ Below w.heap.size w w' := by
  obtain rfl := hx.len
  obtain rfl := hy.len
  obtain rfl := hz.len
  have m1 : xs.length ≤ 3000 := by simp at h1; omega
  have m2 : ys.length ≤ 3000 := by simp at h2; omega
  have m3 : zs.length ≤ 3000 := by simp at h3; omega
  go_enter Try.func4, Try.ntmps4
  go_wp2
  refine wp_loop_rounds 4 ?_
  rw [rounds_succ]
  go_wp2_with fail
  rw [rounds_succ]
  go_wp2_with fail
  rw [rounds_succ]
  go_wp2_with fail
  rw [rounds_succ]
  go_wp2_with fail
  obtain ⟨W, hW⟩ : ∃ W, W = w.alloc (Obj.cells #[Value.slice a xs.length ca, Value.slice b ys.length cb, Value.slice c zs.length cc] 29) := ⟨_, rfl⟩
  have hh := heap_alloc_new w (Obj.cells #[Value.slice a xs.length ca, Value.slice b ys.length cb, Value.slice c zs.length cc] 29)
  have hB0 : Below w.heap.size w W := by rw [hW]; exact (Below.refl _ w).alloc (Nat.le_refl _) _
  have hBs : w.heap.size < W.heap.size := by rw [hW]; simp
  rw [← hW] at hh ⊢
  have q0 : W.cell? ⟨w.heap.size, 0, none⟩ = some (.slice a xs.length ca) := Joins.cell_of_block hh 0
  have q1 : W.cell? ⟨w.heap.size, 1, none⟩ = some (.slice b ys.length cb) := Joins.cell_of_block hh 1
  have q2 : W.cell? ⟨w.heap.size, 2, none⟩ = some (.slice c zs.length cc) := Joins.cell_of_block hh 2
  have bx := (hx.below hB0).mono hB0.size
  have by' := (hy.below hB0).mono hB0.size
  have bz := (hz.below hB0).mono hB0.size
  clear hh hW
  generalize w.heap.size = B at q0 q1 q2 hBs ⊢
  have Sof : Hid (∀ w', Below W.heap.size W w' → (w'.cell? ⟨B, 0, none⟩ = some (.slice a xs.length ca) ∧ w'.cell? ⟨B, 1, none⟩ = some (.slice b ys.length cb) ∧ w'.cell? ⟨B, 2, none⟩ = some (.slice c zs.length cc))) := fun w' h => ⟨(h.cell (p := ⟨B, 0, none⟩) hBs).trans q0, (h.cell (p := ⟨B, 1, none⟩) hBs).trans q1, (h.cell (p := ⟨B, 2, none⟩) hBs).trans q2⟩
  go_region_held3 (fun w' => w'.cell? ⟨B, 0, none⟩ = some (.slice a xs.length ca) ∧ w'.cell? ⟨B, 1, none⟩ = some (.slice b ys.length cb) ∧ w'.cell? ⟨B, 2, none⟩ = some (.slice c zs.length cc))
    (first | go_keep | exact Sof.out _ hB3 | exact Sof.out _ hB2 | exact Sof.out _ hB1)
    (first
      | (refine step_append_bytes (by rfl) _ _ (by rfl) _ _ (by rfl) (by rfl) W.heap.size W.heap.size 0 [] xs ((lit_none W _ (Nat.le_refl _)).drew) (bx.below (((Below.refl _ W).alloc (Nat.le_refl _) _).drew)) (by omega) (by simp) ?_; intro v1 w1 hr1 hg1; have hB1 : Below W.heap.size W w1 := (((Below.refl _ W).alloc (Nat.le_refl _) _).drew).grown hg1 (by simp) (fun k e => by cases e; exact Nat.le_refl _))
      | (refine step_append_bytes (by rfl) _ _ (by rfl) _ _ (by rfl) (by rfl) W.heap.size W.heap.size _ _ ys hr1 (by'.below hB1) (by simp; omega) hB1.size ?_; intro v2 w2 hr2 hg2; have hB2 : Below W.heap.size W w2 := hB1.grown hg2 hB1.size (fun k e => (hr1.lt k e).1))
      | (refine step_append_bytes (by rfl) _ _ (by rfl) _ _ (by rfl) (by rfl) W.heap.size W.heap.size _ _ zs hr2 (bz.below hB2) (by simp; omega) hB2.size ?_; intro v3 w3 hr3 hg3; have hB3 : Below W.heap.size W w3 := hB2.grown hg3 hB2.size (fun k e => (hr2.lt k e).1)))
  have ball := Bts.of_own hr3 (by
    intro z hz'
    simp only [List.nil_append, List.mem_append] at hz'
    rcases hz' with (h | h) | h
    · exact hx.2 z h
    · exact hy.2 z h
    · exact hz.2 z h)
  rw [List.nil_append] at ball
  clear hr1 hg1 hr2 hg2 hr3 hg3
  go_wp2_with fail
  refine (sum_any _ _ w3 ball).mono ?_
  rintro e w4 ⟨s, rfl, hs, hB34⟩
  have hB4 := hB3.trans (hB34.mono hB3.size)
  obtain ⟨p0, p1, p2⟩ := Sof.out w4 hB4
  go_wp2_with fail
  refine (sum_any _ xs w4 ((bx.below hB4).mono hB4.size)).mono ?_
  rintro e w5 ⟨s1, rfl, hs1, hB45⟩
  have hB5 := hB4.trans (hB45.mono hB4.size)
  obtain ⟨p0, p1, p2⟩ := Sof.out w5 hB5
  go_wp2_with fail
  refine (sum_any _ ys w5 ((by'.below hB5).mono hB5.size)).mono ?_
  rintro e w6 ⟨s2, rfl, hs2, hB56⟩
  have hB6 := hB5.trans (hB56.mono hB5.size)
  obtain ⟨p0, p1, p2⟩ := Sof.out w6 hB6
  go_wp2_with fail
  refine (sum_any _ zs w6 ((bz.below hB6).mono hB6.size)).mono ?_
  rintro e w7 ⟨s3, rfl, hs3, hB67⟩
  have hB7 := hB6.trans (hB67.mono hB6.size)
  obtain ⟨p0, p1, p2⟩ := Sof.out w7 hB7
  go_wp2_with fail
  have L1 : Hid (s = U (join (join (sum (bts xs)) (sum (bts ys)) (ys.length : Int).toNat) (sum (bts zs)) (zs.length : Int).toNat)) := by rw [← pieces_left]; exact hs
  have L2 : Hid (s = U (join (sum (bts xs)) (join (sum (bts ys)) (sum (bts zs)) (zs.length : Int).toNat) ((ys.length : Int) + (zs.length : Int)).toNat)) := by rw [← pieces_right]; exact hs
  have L3 : Hid (s = U (more (more (sum (bts xs)) (bts ys)) (bts zs))) := by rw [← pieces_more]; exact hs
  obtain ⟨d1, hd1⟩ : ∃ d, Hid (d = U (join (sum (bts xs)) (sum (bts ys)) (ys.length : Int).toNat)) := ⟨_, rfl⟩
  obtain ⟨d2, hd2⟩ : ∃ d, Hid (d = U (join (sum (bts ys)) (sum (bts zs)) (zs.length : Int).toNat)) := ⟨_, rfl⟩
  obtain ⟨d3, hd3⟩ : ∃ d, Hid (d = U (more (sum (bts xs)) (bts ys))) := ⟨_, rfl⟩
  clear ball
  have c1 := lat_cell p1
  have c2 := lat_cell p2
  haveI := lat_nonempty w7
  have j1 := lat_join (w := w7) (n := (ys.length : Int)) hs1 hs2 (by omega) hd1
  have j2 := lat_join (w := w7) (n := (zs.length : Int)) hd1 hs3 (by omega) L1
  refine wp_region_lat (by kernel_rfl) (by kernel_rfl) ?_
  repeat (go_big_quiet_step (fail))
  go_big_quiet_step ((go_at_call 14; exact j1 _))
  repeat (go_big_quiet_step (fail))
  go_big_quiet_step ((go_at_call 14; exact j2 _))
  repeat (go_big_quiet_step (fail))
  clear j1 j2
  refine wpQuiet_nil ?_
  intro _ hw'
  obtain ⟨p, hw''⟩ := hw'
  subst hw''
  have hB8 := hB7.trans (p.h.mono hB7.size)
  generalize p.W = w8 at hB8 ⊢
  clear c1 c2 p
  obtain ⟨p0, p1, p2⟩ := Sof.out w8 hB8
  go_wp2_with fail
  have c1 := lat_cell p1
  have c2 := lat_cell p2
  haveI := lat_nonempty w8
  have j1 := lat_join (w := w8) (n := (zs.length : Int)) hs2 hs3 (by omega) hd2
  have j2 := lat_join (w := w8) (n := (ys.length : Int) + (zs.length : Int)) hs1 hd2 (by omega) L2
  refine wp_region_lat (by kernel_rfl) (by kernel_rfl) ?_
  repeat (go_big_quiet_step (fail))
  go_big_quiet_step ((go_at_call 14; exact j1 _))
  repeat (go_big_quiet_step (fail))
  go_big_quiet_step ((go_at_call 14; exact j2 _))
  repeat (go_big_quiet_step (fail))
  clear j1 j2
  refine wpQuiet_nil ?_
  intro _ hw'
  obtain ⟨p, hw''⟩ := hw'
  subst hw''
  have hB9 := hB8.trans (p.h.mono hB8.size)
  generalize p.W = w9 at hB9 ⊢
  clear c1 c2 p
  obtain ⟨p0, p1, p2⟩ := Sof.out w9 hB9
  go_wp2_with fail
  have c1 := lat_cell p1
  have c2 := lat_cell p2
  haveI := lat_nonempty w9
  have k1 := lat_more hs1 ((by'.below hB9).mono hB9.size) hd3
  have k2 := lat_more hd3 ((bz.below hB9).mono hB9.size) L3
  refine wp_region_lat (by kernel_rfl) (by kernel_rfl) ?_
  go_big_quiet_step ((go_at_call 8; exact lat_alive _))
  repeat (go_big_quiet_step (fail))
  go_big_quiet_step ((go_at_call 12; exact k1 _))
  repeat (go_big_quiet_step (fail))
  go_big_quiet_step ((go_at_call 12; exact k2 _))
  repeat (go_big_quiet_step (fail))
  refine wpQuiet_nil ?_
  intro _ hw'
  obtain ⟨p, hw''⟩ := hw'
  subst hw''
  go_wp2
  go_ret
  exact ⟨rfl, hB0.trans ((hB9.trans (p.h.mono hB9.size)).mono hB0.size)⟩
theorem pieces_walk (a b c : Option Addr) (la lb lc ca cb cc : Nat) (xs ys zs : List Int) (w : World)
    (hx : Bts w.heap.size w (.slice a la ca) xs) (hy : Bts w.heap.size w (.slice b lb cb) ys) (hz : Bts w.heap.size w (.slice c lc cc) zs) :
    Calls Try.prog 4 #[.agg #[.slice a la ca, .slice b lb cb, .slice c lc cc]] w fun e w' => e = .returned (.bool true) ∧ Below w.heap.size w w' := by
  by_cases c1 : 3000 < (la : Int)
  · exact pieces_out a b c la lb lc ca cb cc w (.inl (by simpa using c1))
  · by_cases c2 : 3000 < (lb : Int)
    · exact pieces_out a b c la lb lc ca cb cc w (.inr (.inl ⟨by simpa using c1, by simpa using c2⟩))
    · by_cases c3 : 3000 < (lc : Int)
      · exact pieces_out a b c la lb lc ca cb cc w (.inr (.inr ⟨by simpa using c1, by simpa using c2, by simpa using c3⟩))
      · exact pieces_in a b c la lb lc ca cb cc xs ys zs w hx hy hz (by simpa using c1) (by simpa using c2) (by simpa using c3)
end Go.Proofs.Ytdokhiikglcpcaa
