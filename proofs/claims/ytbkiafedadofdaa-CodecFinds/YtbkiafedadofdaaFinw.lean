/- The walk of the law CodecFinds. -/
import Derived.Test.YtbkiafedadofdaaFind
import Derived.Test.YtbkiafedadofdaaSizw
namespace Go.Proofs.Ytbkiafedadofdaa
open Go.RowKit Go.Shelf Plain Go.IntWalk
set_option linter.unusedVariables false

set_option maxRecDepth 100000 in
set_option maxHeartbeats 1000000 in
theorem finds_few1 (a b : Option Addr) (len cap len2 cap2 : Nat) (tag : Int) (xs ys : List Fd) (w : World) (hI : Flds w.heap.size w (.slice a len cap) xs) (hJ : Flds w.heap.size w (.slice b len2 cap2) ys) (hf : fewB xs = false) :
    Calls Try.prog 5 #[.slice a len cap, .slice b len2 cap2, .int .i64 tag] w fun e w' => e = .returned (.bool true) ∧ Below w.heap.size w w' := by
  go_enter Try.func5, Try.ntmps5
  go_wp2_with fail
  refine (few_any _ xs _ hI).mono ?_
  rintro e w1 ⟨rfl, hw⟩
  subst hw
  rw [hf]
  go_wp2_with fail
  refine (few_any _ ys _ hJ).mono ?_
  rintro e w1 ⟨rfl, hw⟩
  subst hw
  generalize fewB ys = y
  go_wp2_with (go_at_call 10; refine (alive_any _).mono ?_; rintro e w6 ⟨rfl, hB6⟩)
  go_ret
  exact ⟨rfl, hB6⟩
set_option maxRecDepth 100000 in
set_option maxHeartbeats 1000000 in
theorem finds_few2 (a b : Option Addr) (len cap len2 cap2 : Nat) (tag : Int) (xs ys : List Fd) (w : World) (hI : Flds w.heap.size w (.slice a len cap) xs) (hJ : Flds w.heap.size w (.slice b len2 cap2) ys) (hf : fewB xs = true) (hf2 : fewB ys = false) :
    Calls Try.prog 5 #[.slice a len cap, .slice b len2 cap2, .int .i64 tag] w fun e w' => e = .returned (.bool true) ∧ Below w.heap.size w w' := by
  go_enter Try.func5, Try.ntmps5
  go_wp2_with fail
  refine (few_any _ xs _ hI).mono ?_
  rintro e w1 ⟨rfl, hw⟩
  subst hw
  rw [hf]
  go_wp2_with fail
  refine (few_any _ ys _ hJ).mono ?_
  rintro e w1 ⟨rfl, hw⟩
  subst hw
  rw [hf2]
  go_wp2_with (go_at_call 10; refine (alive_any _).mono ?_; rintro e w6 ⟨rfl, hB6⟩)
  go_ret
  exact ⟨rfl, hB6⟩

theorem self_split' {α : Type} (xs : List α) (q : Nat) (x : α) (h : xs[q]? = some x) : xs = xs.take q ++ x :: xs.drop (q + 1) := by
  obtain ⟨hq, e⟩ := List.getElem?_eq_some_iff.1 h
  conv => lhs; rw [← List.take_append_drop q xs, List.drop_eq_getElem_cons hq, e]
theorem find_left {xs ys : List Fd} {tag : Int} (h : hasT xs tag = true) : hasT (xs ++ ys) tag = true ∧ findT (xs ++ ys) tag = findT xs tag := by
  refine ⟨by simp only [hasT, List.any_append] at h ⊢; rw [h]; rfl, ?_⟩
  obtain ⟨x, hx, ht⟩ := List.any_eq_true.1 h
  cases hf : xs.find? (fun x => x.tag == tag) with
  | none => exact absurd ht (by have := List.find?_eq_none.1 hf x hx; simpa using this)
  | some y => simp [findT, List.find?_append, hf]
theorem find_right {xs ys : List Fd} {tag : Int} (h : hasT xs tag = false) : hasT (xs ++ ys) tag = hasT ys tag ∧ findT (xs ++ ys) tag = findT ys tag := by
  refine ⟨by simp only [hasT, List.any_append] at h ⊢; rw [h]; rfl, ?_⟩
  have hf : xs.find? (fun x => x.tag == tag) = none := List.find?_eq_none.2 (fun x hx ht => by
    have h2 : (xs.any fun x => x.tag == tag) = true := List.any_eq_true.2 ⟨x, hx, ht⟩
    unfold hasT at h
    rw [h2] at h; cases h)
  simp [findT, List.find?_append, hf]

set_option maxRecDepth 100000 in
set_option maxHeartbeats 4000000 in
theorem finds_core (a b : Option Addr) (len cap len2 cap2 : Nat) (tag : Int) (xs ys : List Fd) (w : World) (hI : Flds w.heap.size w (.slice a len cap) xs) (hJ : Flds w.heap.size w (.slice b len2 cap2) ys) (hf : fewB xs = true) (hf2 : fewB ys = true)
    (hx5 : Hid (∀ x ∈ xs, x.zs.length ≤ 5000)) (hy5 : Hid (∀ x ∈ ys, x.zs.length ≤ 5000)) (hl : len ≤ 250) (hl2 : Hid (len2 ≤ 250)) (HX : Hid (xs.length = len)) (HY : Hid (ys.length = len2)) (f : Nat → Fd)
    (hc : ∀ j, j < len → ∃ bb off, a = some ⟨bb, off, none⟩ ∧ bb < w.heap.size ∧ w.cell? ⟨bb, off + j * 2, none⟩ = some (.int .i64 (f j).tag) ∧ w.cell? ⟨bb, off + j * 2 + 1, none⟩ = some (.slice (f j).a (f j).len (f j).cap))
    (hfx : Hid (∀ j, j < len → xs[j]? = some (f j))) :
    Calls Try.prog 5 #[.slice a len cap, .slice b len2 cap2, .int .i64 tag] w fun e w' => e = .returned (.bool true) ∧ Below w.heap.size w w' := by
  go_enter Try.func5, Try.ntmps5
  go_wp2_with fail
  refine (few_any _ xs _ hI).mono ?_
  rintro e w1 ⟨rfl, hw⟩
  subst hw
  rw [hf]
  go_wp2_with fail
  refine (few_any _ ys _ hJ).mono ?_
  rintro e w1 ⟨rfl, hw⟩
  subst hw
  rw [hf2]
  go_wp2_with fail
  refine (find_any _ xs tag _ hI hx5.out).mono ?_
  rintro e w1 ⟨u1, rfl, hr1, hB1⟩
  generalize hs1 : hasT xs tag = is1
  have HS1 : Hid (hasT xs tag = is1) := hs1
  clear hs1
  go_wp2_with fail
  go_loop [11] (fun i => ∃ k : Nat, k ≤ len ∧ i = .int .i64 k ∧ Hid (∀ j, j < k → (f j).tag ≠ tag)) (fun i => len - (intOf i).toNat)
  case atStart => exact ⟨0, Nat.zero_le _, rfl, fun j hj => by omega⟩
  case round =>
    obtain ⟨k, hk, rfl, HK⟩ := hrel
    by_cases hlt : k < len
    · obtain ⟨bb, off, rfl, hbb, hc1, hc2⟩ := hc k hlt
      have hk1 := (hB1.cell (p := ⟨bb, off + k * 2, none⟩) hbb).trans hc1
      by_cases ht : (f k).tag = tag
      · have hne : ((f k).tag != tag) = false := by simpa using ht
        have HT : Hid ((f k).tag = tag) := ht
        clear ht
        go_wp2_with fail
        refine (find_any _ ys tag _ ((hJ.below hB1).mono hB1.size) hy5.out).mono ?_
        rintro e w2 ⟨u2, rfl, hr2, hB2⟩
        generalize hs2 : hasT ys tag = is2
        have HS2 : Hid (hasT ys tag = is2) := hs2
        clear hs2
        have hB02 := hB1.trans (hB2.mono hB1.size)
        have hs02 := hB02.size
        go_wp2_with (first
          | (at_builtin; refine wpList_append_flds _ rfl (.tmp 55) (.tmp 56) rfl w2.heap.size w.heap.size _ _ _ [] xs rfl rfl (lit0 w2 _ (Nat.le_refl _)) ((hI.below hB02).below ((Below.refl _ w2).alloc hs02 _)) (by have := HX.out; omega) (by simp) ?_; intro v3 w3 hr3 hg3; have hB3 : Below w2.heap.size w2 w3 := ((Below.refl _ w2).alloc (Nat.le_refl _) _).grown hg3 (by simp) (fun k e => by cases e; exact Nat.le_refl _); have hs3 := hB3.size)
          | (at_builtin; go_must (refine wpList_append_flds _ rfl (.tmp 57) (.tmp 58) rfl w2.heap.size w.heap.size _ _ _ _ ys rfl rfl hr3 ((hJ.below hB02).below (hB3.mono hs02)) (by have := HX.out; have := HY.out; have := hl2.out; omega) hs3 ?_); intro v4 w4 hr4 hg4; have hB4 : Below w2.heap.size w2 w4 := hB3.grown hg4 hs3 (fun k e => (hr3.lt k e).1)))
        rw [List.nil_append] at hr4
        have hB04 := hB02.trans (hB4.mono hs02)
        have hok4 : ∀ x ∈ xs ++ ys, x.ok w4.heap.size w4 := by
          intro x hx
          rcases List.mem_append.1 hx with h | h
          · exact ((hI.2 x h).below hB04).mono hB04.size
          · exact ((hJ.2 x h).below hB04).mono hB04.size
        refine (find_any _ (xs ++ ys) tag _ (Flds.of_own hr4 hok4) (by intro x hx; rcases List.mem_append.1 hx with h | h; exact hx5.out x h; exact hy5.out x h)).mono ?_
        rintro e w5 ⟨u5, rfl, hr5, hB5⟩
        have hB05 := hB04.trans (hB5.mono hB04.size)
        have hB15 := hB2.trans ((hB4.trans (hB5.mono hB4.size)).mono hB2.size)
        have hB25 := hB4.trans (hB5.mono hB4.size)
        have b1 := ((Bts.of_own hr1 (findT_byte hI.2)).below hB15).mono hB15.size
        have b2 := ((Bts.of_own hr2 (findT_byte hJ.2)).below hB25).mono hB25.size
        have b5 := Bts.of_own hr5 (findT_byte hok4)
        haveI := lat_nonempty w5
        have hfk : findT xs tag = (f k).zs ∧ hasT xs tag = true := by
          obtain ⟨e1, e2⟩ := find_some (xs := xs) (ini := xs.take k) (rest := xs.drop (k + 1)) (last := f k) (tag := tag) (self_split' xs k (f k) (hfx.out k hlt)) (by
            intro x hx
            obtain ⟨j, hj, rfl⟩ := List.getElem_of_mem hx
            have hjk : j < k := by rw [List.length_take] at hj; omega
            have h2 := hfx.out j (by omega)
            rw [List.getElem_take]
            obtain ⟨h3, h4⟩ := List.getElem?_eq_some_iff.1 h2
            rw [h4]; exact HK.out j hjk) HT.out
          exact ⟨e2, e1⟩
        have e1 := HS1.out
        rw [hfk.2] at e1
        subst e1
        have h5 : hasT (xs ++ ys) tag = true ∧ findT (xs ++ ys) tag = findT xs tag := find_left hfk.2
        rw [h5.2] at b5
        rw [h5.1]
        obtain ⟨A, HA⟩ : ∃ A, Hid (strOfNums (findT xs tag) = A) := ⟨_, rfl⟩
        have kA := lat_conv b1 HA
        have bE := (((hI.2 (f k) (List.mem_of_getElem? (hfx.out k hlt))).1.below hB05).mono hB05.size)
        rw [← hfk.1] at bE
        have kE := lat_conv bE HA
        unfold Fd.sl at kE
        have kc := lat_cell ((hB05.cell (p := ⟨bb, off + k * 2 + 1, none⟩) hbb).trans hc2)
        clear hfk h5
        go_wp2_with fail
        refine wp_region_lat (by kernel_rfl) (by kernel_rfl) ?_
        repeat (go_big_quiet_step (fail))
        refine wpQuiet_nil ?_
        intro _ hw'
        obtain ⟨p, hw''⟩ := hw'
        subst hw''
        clear kA kE kc
        go_wp2_with (go_at_call 10; go_must (refine (alive_any _).mono ?_); rintro e w7 ⟨rfl, hB7⟩; have kd := run_conv (b5.below (p.h.trans (hB7.mono p.h.size))); have kb := run_conv (b1.below (p.h.trans (hB7.mono p.h.size))); rw [HA.out] at kd kb)
        go_ret
        exact ⟨rfl, hB05.trans ((p.h.trans (hB7.mono p.h.size)).mono hB05.size)⟩
      · have hne : ((f k).tag != tag) = true := by simpa using ht
        go_wp2
        go_roundw
        case rel =>
          refine ⟨k + 1, by omega, by go_num, fun j hj => ?_⟩
          rcases Nat.lt_or_ge j k with h | h
          · exact HK.out j h
          · obtain rfl : j = k := by omega
            exact ht
        case measure => simp [intOf]; omega
    · obtain rfl : k = len := by omega
      go_wp2_with fail
      refine (find_any _ ys tag _ ((hJ.below hB1).mono hB1.size) hy5.out).mono ?_
      rintro e w2 ⟨u2, rfl, hr2, hB2⟩
      generalize hs2 : hasT ys tag = is2
      have HS2 : Hid (hasT ys tag = is2) := hs2
      clear hs2
      have hB02 := hB1.trans (hB2.mono hB1.size)
      have hs02 := hB02.size
      go_wp2_with (first
        | (at_builtin; refine wpList_append_flds _ rfl (.tmp 55) (.tmp 56) rfl w2.heap.size w.heap.size _ _ _ [] xs rfl rfl (lit0 w2 _ (Nat.le_refl _)) ((hI.below hB02).below ((Below.refl _ w2).alloc hs02 _)) (by have := HX.out; omega) (by simp) ?_; intro v3 w3 hr3 hg3; have hB3 : Below w2.heap.size w2 w3 := ((Below.refl _ w2).alloc (Nat.le_refl _) _).grown hg3 (by simp) (fun k e => by cases e; exact Nat.le_refl _); have hs3 := hB3.size)
        | (at_builtin; go_must (refine wpList_append_flds _ rfl (.tmp 57) (.tmp 58) rfl w2.heap.size w.heap.size _ _ _ _ ys rfl rfl hr3 ((hJ.below hB02).below (hB3.mono hs02)) (by have := HX.out; have := HY.out; have := hl2.out; omega) hs3 ?_); intro v4 w4 hr4 hg4; have hB4 : Below w2.heap.size w2 w4 := hB3.grown hg4 hs3 (fun k e => (hr3.lt k e).1)))
      rw [List.nil_append] at hr4
      have hB04 := hB02.trans (hB4.mono hs02)
      have hok4 : ∀ x ∈ xs ++ ys, x.ok w4.heap.size w4 := by
        intro x hx
        rcases List.mem_append.1 hx with h | h
        · exact ((hI.2 x h).below hB04).mono hB04.size
        · exact ((hJ.2 x h).below hB04).mono hB04.size
      refine (find_any _ (xs ++ ys) tag _ (Flds.of_own hr4 hok4) (by intro x hx; rcases List.mem_append.1 hx with h | h; exact hx5.out x h; exact hy5.out x h)).mono ?_
      rintro e w5 ⟨u5, rfl, hr5, hB5⟩
      have hB05 := hB04.trans (hB5.mono hB04.size)
      have hB15 := hB2.trans ((hB4.trans (hB5.mono hB4.size)).mono hB2.size)
      have hB25 := hB4.trans (hB5.mono hB4.size)
      have b1 := ((Bts.of_own hr1 (findT_byte hI.2)).below hB15).mono hB15.size
      have b2 := ((Bts.of_own hr2 (findT_byte hJ.2)).below hB25).mono hB25.size
      have b5 := Bts.of_own hr5 (findT_byte hok4)
      haveI := lat_nonempty w5
      have hfk : hasT xs tag = false ∧ findT xs tag = [] := find_none (by
          intro x hx
          obtain ⟨j, hj, rfl⟩ := List.getElem_of_mem hx
          have hjk : j < k := by have := HX.out; omega
          have h2 := hfx.out j hjk
          obtain ⟨h3, h4⟩ := List.getElem?_eq_some_iff.1 h2
          rw [h4]; exact HK.out j hjk)
      have e1 := HS1.out
      rw [hfk.1] at e1
      subst e1
      have h5 : hasT (xs ++ ys) tag = hasT ys tag ∧ findT (xs ++ ys) tag = findT ys tag := find_right hfk.1
      rw [h5.2] at b5
      rw [h5.1, HS2.out]
      obtain ⟨A, HA⟩ : ∃ A, Hid (strOfNums (findT ys tag) = A) := ⟨_, rfl⟩
      clear hfk h5
      go_wp2_with fail
      refine wp_region_lat (by kernel_rfl) (by kernel_rfl) ?_
      repeat (go_big_quiet_step (fail))
      refine wpQuiet_nil ?_
      intro _ hw'
      obtain ⟨p, hw''⟩ := hw'
      subst hw''
      go_wp2_with (go_at_call 10; go_must (refine (alive_any _).mono ?_); rintro e w7 ⟨rfl, hB7⟩; have kd := run_conv (b5.below (p.h.trans (hB7.mono p.h.size))); have kb := run_conv (b2.below (p.h.trans (hB7.mono p.h.size))); rw [HA.out] at kd kb)
      go_ret
      exact ⟨rfl, hB05.trans ((p.h.trans (hB7.mono p.h.size)).mono hB05.size)⟩
end Go.Proofs.Ytbkiafedadofdaa
