/- The walk of TrieLongest. -/
import Derived.Test.YtpcdmjalfabbmaaBlt
namespace Go.Proofs.Ytpcdmjalfabbmaa
open Go.RowKit Go.IntWalk Go.Maps Go.Shelf
set_option linter.unusedVariables false
theorem bst_get {m : Nat} {W w : World} {tb : Nat} {L : List E} {n : Nat} (h : Bst m W w tb L n) (k : K) (hk : k.length ≤ 100000) {o : Option ByteArray} (ho : Hid (gt L k = o)) :
    Calls Try.prog 26 #[ptr tb, .string (bt k)] w fun r w' => r = .returned (.tuple #[.string (vOf o), .bool o.isSome]) ∧ Bst m W w' tb L n ∧ w.grownBy w' none := by
  obtain ⟨S, h1, h2⟩ := h.ex
  refine (get_any w h1 k (by omega) ho).mono ?_
  rintro r w' ⟨rfl, hg⟩
  exact ⟨rfl, h.keep hg, hg⟩
theorem bst_longest {m : Nat} {W w : World} {tb : Nat} {L : List E} {n : Nat} (h : Bst m W w tb L n) (k : K) (hk : k.length ≤ 100000) :
    Calls Try.prog 25 #[ptr tb, .string (bt k)] w fun r w' => ∃ o, IsLong L k o ∧ r = .returned (.tuple #[.agg #[.string (bt (ek o)), .string (ev o)], .bool o.isSome]) ∧ Bst m W w' tb L n ∧ w.grownBy w' none := by
  obtain ⟨S, h1, h2⟩ := h.ex
  refine (longest_any w h1 k hk).mono ?_
  rintro r w' ⟨o, h3, rfl, hg⟩
  exact ⟨o, h3, rfl, h.keep hg, hg⟩
set_option maxRecDepth 100000 in
set_option maxHeartbeats 8000000 in
theorem longest_walk (a : Option Addr) (cap : Nat) (xs : List Ac) (k : K) (W : World) (ha : Acs W.heap.size W (.slice a xs.length cap) xs) (hkm : k.length ≤ maxLen) :
    Calls Try.prog 6 #[.slice a xs.length cap, .string (bt k)] W fun e W' => e = .returned (.bool true) ∧ Below W.heap.size W W' := by
  unfold maxLen at hkm
  have hbl := built_any W ha
  have hsz := bt_size k
  have htl := bt_toList
  go_enter Try.func6, Try.ntmps6
  go_wp2_with fail
  refine hbl.mono ?_
  rintro r w1 ⟨tb, L, rfl, hB⟩
  clear hbl
  by_cases hk : k.length ≤ 40
  · have hlo := bst_longest hB k (by omega)
    have hd : decide ((k.length : Int) > 40) = false := by simp; omega
    have hd' : (k.length : Int) ≤ 40 := by omega
    replace hB : Hid _ := ⟨hB⟩
    go_wp2_with fail
    refine hlo.mono ?_
    rintro r w2 ⟨o, hio, rfl, hB2, -⟩
    clear hlo
    cases o with
    | none =>
      have hno : Hid (∀ i : Nat, 0 ≤ i → i ≤ k.length → gt L (k.take i) = none) := ⟨fun i _ _ => by
        cases e : gt L (k.take i) with
        | none => rfl
        | some v => exact absurd (List.take_prefix i k) (hio _ (gt_some e))⟩
      have hB3 := hB2.keep (World.grownBy_alloc w2 (.cells #[.string (bt []), .string (bt [])] 46) none)
      replace hB3 : Hid _ := ⟨hB3⟩
      clear hio hB2
      go_wp2_with fail
      go_loopw [11] (fun v wr => ∃ i : Nat, v = .int .i64 i ∧ 0 ≤ i ∧ i ≤ k.length + 1 ∧ Hid (∃ m, Bst m W wr tb L 120))
        (fun v _ => k.length + 1 - (intOf v).toNat)
      case atStart => exact ⟨0, by first | rfl | go_num, by omega, by omega, ⟨_, hB3.out⟩⟩
      case round =>
        clear hB3
        obtain ⟨i, rfl, hi1, hi2, hS⟩ := hrel
        obtain ⟨m, hS⟩ := hS.out
        by_cases hi : i ≤ k.length
        · have hde : decide ((i : Int) ≤ k.length) = true := by simp; omega
          have hde2 : (i : Int) ≤ k.length := by omega
          have hgt := bst_get hS (k.take i) (by rw [List.length_take]; omega) ⟨hno.out i hi1 hi⟩
          have hct := bt_take k i
          replace hS : Hid _ := ⟨hS⟩
          replace hgt : Hid _ := ⟨hgt⟩
          go_wp2_with fail
          refine hgt.out.mono ?_
          rintro r w5 ⟨rfl, hS5, -⟩
          replace hS5 : Hid (∃ m, Bst m W w5 tb L 120) := ⟨⟨m, hS5⟩⟩
          clear hgt hct
          go_wp2_with fail
          exact ⟨⟨i + 1, by go_num, by omega, by omega, hS5⟩, by simp [intOf]; omega⟩
        · have hde : decide ((i : Int) ≤ k.length) = false := by simp; omega
          replace hS : Hid _ := ⟨hS⟩
          go_wp2_with fail
          refine (alive_any wr).mono ?_
          rintro r w5 ⟨rfl, hg5⟩
          have hfin := (hS.out.keep hg5).below
          clear hS
          go_wp2
          go_ret
          exact ⟨rfl, hfin⟩
    | some y =>
      obtain ⟨hy1, hy2, hy3⟩ := hio
      have hg := hB2.srt.gt hy1
      have hyl := hB2.key y hy1
      have hyk := hy2.length_le
      obtain ⟨n, hn⟩ : ∃ n, n = y.k.length := ⟨_, rfl⟩
      have hno : Hid (∀ i : Nat, n + 1 ≤ i → i ≤ k.length → gt L (k.take i) = none) := ⟨fun i h1 h2 => by
        cases e : gt L (k.take i) with
        | none => rfl
        | some v =>
          have := (hy3 _ (gt_some e) (List.take_prefix i k)).length_le
          rw [List.length_take] at this
          omega⟩
      have hcut : (bt k).extract 0 n = bt y.k := by
        rw [bt_take, hn, ← List.prefix_iff_eq_take.1 hy2]
      have hga := World.grownBy_alloc w2 (.cells #[.string (bt y.k), .string y.v] 46) none
      have hB3 := hB2.keep hga
      have hget := bst_get hB3 y.k (by omega) ⟨hg⟩
      have c0 := cell_new w2 #[.string (bt y.k), .string y.v] 46 (i := 0) rfl
      have c1 := cell_new w2 #[.string (bt y.k), .string y.v] 46 (i := 1) rfl
      have hszy := bt_size y.k
      rw [← hn] at hszy hyl hyk
      obtain ⟨q, hq⟩ : ∃ q, y.k = q := ⟨_, rfl⟩
      obtain ⟨u, hu⟩ : ∃ u, y.v = u := ⟨_, rfl⟩
      have hek : ek (some y) = q := hq
      have hev : ev (some y) = u := hu
      rw [hek, hev]
      rw [hq] at hcut hget c0 c1 hszy hB3
      rw [hu] at hget c0 c1 hB3
      replace hB3 : Hid _ := ⟨hB3⟩
      replace hn : Hid _ := ⟨hn⟩
      replace hget : Hid _ := ⟨hget⟩
      have hdn : (n : Int) ≤ k.length := by omega
      have hdn2 : decide (k.length < n) = false := by simp; omega
      clear hy1 hy2 hy3 hg hB2 hga hek hev hq hu
      go_wp2_with fail
      refine hget.out.mono ?_
      rintro r w3 ⟨rfl, hB4, hg4⟩
      have c0 := grown_cell hg4 c0
      have c1 := grown_cell hg4 c1
      replace hB4 : Hid _ := ⟨hB4⟩
      clear hg4 hget hB3
      haveI := lat_nonempty w3
      have kk0 := lat_cell c0
      have kk1 := lat_cell c1
      go_wp2_with fail
      refine wp_region_lat (by kernel_rfl) (by kernel_rfl) ?_
      repeat (go_big_quiet_step (fail))
      refine wpQuiet_nil ?_
      intro _ hw'
      obtain ⟨x, hw''⟩ := hw'
      subst hw''
      have hB3 : Hid _ := ⟨hB4.out.keep x.h⟩
      generalize x.W = w4 at *
      clear hB4 kk0 kk1 c0 c1 x
      go_wp2_with fail
      go_loopw [11] (fun v wr => ∃ i : Nat, v = .int .i64 i ∧ n + 1 ≤ i ∧ i ≤ k.length + 1 ∧ Hid (∃ m, Bst m W wr tb L 120))
        (fun v _ => k.length + 1 - (intOf v).toNat)
      case atStart => exact ⟨n + 1, by first | rfl | go_num, by omega, by omega, ⟨_, hB3.out⟩⟩
      case round =>
        clear hB3
        obtain ⟨i, rfl, hi1, hi2, hS⟩ := hrel
        obtain ⟨m, hS⟩ := hS.out
        by_cases hi : i ≤ k.length
        · have hde : decide ((i : Int) ≤ k.length) = true := by simp; omega
          have hde2 : (i : Int) ≤ k.length := by omega
          have hgt := bst_get hS (k.take i) (by rw [List.length_take]; omega) ⟨hno.out i hi1 hi⟩
          have hct := bt_take k i
          replace hS : Hid _ := ⟨hS⟩
          replace hgt : Hid _ := ⟨hgt⟩
          go_wp2_with fail
          refine hgt.out.mono ?_
          rintro r w5 ⟨rfl, hS5, -⟩
          replace hS5 : Hid (∃ m, Bst m W w5 tb L 120) := ⟨⟨m, hS5⟩⟩
          clear hgt hct
          go_wp2_with fail
          exact ⟨⟨i + 1, by go_num, by omega, by omega, hS5⟩, by simp [intOf]; omega⟩
        · have hde : decide ((i : Int) ≤ k.length) = false := by simp; omega
          replace hS : Hid _ := ⟨hS⟩
          go_wp2_with fail
          refine (alive_any wr).mono ?_
          rintro r w5 ⟨rfl, hg5⟩
          have hfin := (hS.out.keep hg5).below
          clear hS
          go_wp2
          go_ret
          exact ⟨rfl, hfin⟩
  · have hd : (40 : Int) < k.length := by omega
    have hfin : Hid (Below W.heap.size W w1) := ⟨hB.below⟩
    clear hB
    go_wp2
    go_ret
    exact ⟨rfl, hfin.out⟩
theorem longest_law (v : Value) (xs : List Ac) (s : ByteArray) (W : World) (ha : Acs W.heap.size W v xs) (hs : s.size ≤ maxLen) :
    Calls Try.prog 6 #[v, .string s] W fun e W' => e = .returned (.bool true) ∧ Below W.heap.size W W' := by
  obtain ⟨a, cap, rfl, _⟩ := ha.shape
  have := longest_walk a cap xs s.data.toList W ha (by have := bt_size s.data.toList; rw [bt_of] at this; omega)
  rwa [bt_of] at this
end Go.Proofs.Ytpcdmjalfabbmaa
