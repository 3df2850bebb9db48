/- The walk of the law CodecBack, by what codec.Decode answers. -/
import Derived.Test.YtbkiafedadofdaaSame
import Derived.Test.YtbkiafedadofdaaIter
namespace Go.Proofs.Ytbkiafedadofdaa
open Go.RowKit Go.Shelf Plain Go.IntWalk
set_option linter.unusedVariables false

/-- What codec.Decode answers, at whatever bytes. -/
def DecSaid : Prop := ∀ (v : Value) (zs : List Int) (w : World), Bts w.heap.size w v zs →
  Calls Try.prog 13 #[v] w fun e W' => ((∃ u xs, e = .returned (.tuple #[u, .int .i64 0]) ∧ Flds W'.heap.size W' u xs ∧ zs = encL xs ∧ okL xs = true) ∨ (e = .returned (.tuple #[.slice none 0 0, .int .i64 12]) ∧ ∀ xs, okL xs = true → zs ≠ encL xs)) ∧ Below w.heap.size w W'

theorem Flds.form {n₀ : Nat} {A : World} {v : Value} {xs : List Fd} (hz : Flds n₀ A v xs) : ∃ a len cap, v = .slice a len cap ∧ len = xs.length := by
  obtain ⟨⟨rfl | ⟨ad, cap, rfl⟩, rfl⟩ | ⟨b, off, cap, rfl, _⟩, _⟩ := hz
  · exact ⟨none, 0, 0, rfl, rfl⟩
  · exact ⟨_, 0, cap, rfl, rfl⟩
  · exact ⟨_, _, cap, rfl, rfl⟩
theorem same_all (u v : Value) (xs ys : List Fd) (w : World) (hI : Flds w.heap.size w u xs) (hJ : Flds w.heap.size w v ys) :
    Calls Try.prog 15 #[u, v] w fun e w' => e = .returned (.bool (decide (xs.map said = ys.map said))) ∧ Below w.heap.size w w' := by
  obtain ⟨a, len, cap, rfl, _⟩ := hI.form
  obtain ⟨b, len2, cap2, rfl, _⟩ := hJ.form
  exact same_any a b len cap len2 cap2 xs ys w hI hJ
theorem errR_ok {xs : List Fd} (h : okL xs = true) : errR xs = 0 := by unfold errR; rw [if_pos h]
theorem encR_ok {xs : List Fd} (h : okL xs = true) : encR xs = encL xs := by unfold encR; rw [if_pos h]
theorem errR_bad {xs : List Fd} (h : okL xs = false) : errR xs = 11 := by unfold errR; rw [if_neg (by rw [h]; decide)]
theorem encL_ok_le {xs : List Fd} (h : okL xs = true) : (encL xs).length ≤ 400600 := by
  simp only [okL, Bool.and_eq_true, decide_eq_true_eq, List.all_eq_true] at h
  have := encL_le xs h.2
  omega
theorem encL_byte {xs : List Fd} {n₀ : Nat} {W : World} (h : ∀ x ∈ xs, x.ok n₀ W) (ho : okL xs = true) : ∀ z ∈ encL xs, 0 ≤ z ∧ z < 256 := by
  have := encR_byte h
  rwa [encR_ok ho] at this
theorem okL_app {xs ys : List Fd} (h1 : okL xs = true) (h2 : okL ys = true) : okL (xs ++ ys) = decide (xs.length + ys.length ≤ 200) := by
  simp only [okL, Bool.and_eq_true, decide_eq_true_eq] at h1 h2 ⊢
  rw [List.all_append, h1.2, h2.2, List.length_append]; simp

set_option maxRecDepth 100000 in
set_option maxHeartbeats 1000000 in
theorem back_few (a b d : Option Addr) (len cap len2 cap2 dl dc : Nat) (xs ys : List Fd) (w : World) (hI : Flds w.heap.size w (.slice a len cap) xs) (hJ : Flds w.heap.size w (.slice b len2 cap2) ys) (hf : fewB xs = false ∨ fewB ys = false ∨ (5000 : Int) < (dl : Int)) (hdl : dl ≤ 9223372036854775807) :
    Calls Try.prog 4 #[.slice a len cap, .slice b len2 cap2, .slice d dl dc] w fun e w' => e = .returned (.bool true) ∧ Below w.heap.size w w' := by
  go_enter Try.func4, Try.ntmps4
  go_wp2_with fail
  refine (few_any _ xs _ hI).mono ?_
  rintro e w1 ⟨rfl, hw⟩
  subst hw
  go_wp2_with fail
  refine (few_any _ ys _ hJ).mono ?_
  rintro e w1 ⟨rfl, hw⟩
  subst hw
  cases h1 : fewB xs with
  | false =>
    clear hf
    generalize fewB ys = y
    go_wp2_with (go_at_call 10; refine (alive_any _).mono ?_; rintro e w6 ⟨rfl, hB6⟩)
    go_ret
    exact ⟨rfl, hB6⟩
  | true =>
    cases h2 : fewB ys with
    | false =>
      clear hf
      go_wp2_with (go_at_call 10; refine (alive_any _).mono ?_; rintro e w6 ⟨rfl, hB6⟩)
      go_ret
      exact ⟨rfl, hB6⟩
    | true =>
      have hf' : (5000 : Int) < (dl : Int) := by rcases hf with h | h | h <;> simp_all
      clear hf
      go_wp2_with (go_at_call 10; refine (alive_any _).mono ?_; rintro e w6 ⟨rfl, hB6⟩)
      go_ret
      exact ⟨rfl, hB6⟩

set_option maxRecDepth 100000 in
set_option maxHeartbeats 4000000 in
theorem back_bad (hdec : DecSaid) (a b d : Option Addr) (len cap len2 cap2 dl dc : Nat) (xs ys : List Fd) (zs : List Int) (w : World) (hI : Flds w.heap.size w (.slice a len cap) xs) (hJ : Flds w.heap.size w (.slice b len2 cap2) ys) (hZ : Bts w.heap.size w (.slice d dl dc) zs) (hf : fewB xs = true) (hf2 : fewB ys = true) (hd : decide ((5000 : Int) < (dl : Int)) = false) (hdl : dl ≤ 9223372036854775807)
    (ho : okL xs = false ∨ okL ys = false) :
    Calls Try.prog 4 #[.slice a len cap, .slice b len2 cap2, .slice d dl dc] w fun e w' => e = .returned (.bool true) ∧ Below w.heap.size w w' := by
  go_enter Try.func4, Try.ntmps4
  go_wp2_with fail
  refine (few_any _ xs _ hI).mono ?_
  rintro e w1 ⟨rfl, hw⟩
  subst hw
  rw [hf]
  go_wp2_with fail
  refine (few_any _ ys _ hJ).mono ?_
  rintro e w1 ⟨rfl, hw⟩
  subst hw
  rw [hf2]
  go_wp2_with fail
  refine (hdec _ zs _ hZ).mono ?_
  rintro e w1 ⟨(⟨z, zfs, rfl, hFz, hez, hoz⟩ | ⟨rfl, hno⟩), hB1⟩
  · go_wp2_with fail
    refine (encode_any _ zfs _ hFz).mono ?_
    rintro e W ⟨wv, rfl, hrw, hBw⟩
    rw [errR_ok hoz]
    rw [encR_ok hoz, ← hez] at hrw
    obtain ⟨A, HA⟩ : ∃ A, Hid (strOfNums zs = A) := ⟨_, rfl⟩
    have hB : Below w.heap.size w W := hB1.trans (hBw.mono hB1.size)
    have k1 := run_conv (Bts.of_own hrw hZ.2)
    have k2 := run_conv (hZ.below hB)
    rw [HA.out] at k1 k2
    clear hez hoz hFz
    go_wp2_with fail
    clear k1 k2
    refine (encode_any _ xs _ ((hI.below hB).mono hB.size)).mono ?_
    rintro e w3 ⟨x, rfl, hr3, hB3⟩
    have hB03 := hB.trans (hB3.mono hB.size)
    go_wp2_with fail
    refine (encode_any _ ys _ ((hJ.below hB03).mono hB03.size)).mono ?_
    rintro e w4 ⟨y, rfl, hr4, hB4⟩
    have hB04 := hB03.trans (hB4.mono hB03.size)
    clear hr3 hr4
    cases h1 : okL xs with
    | false =>
      rw [errR_bad h1]
      cases h2 : okL ys with
      | false =>
        rw [errR_bad h2]
        go_wp2_with (go_at_call 10; refine (alive_any _).mono ?_; rintro e w6 ⟨rfl, hB6⟩)
        go_ret
        exact ⟨rfl, hB04.trans (hB6.mono hB04.size)⟩
      | true =>
        rw [errR_ok h2]
        go_wp2_with (go_at_call 10; refine (alive_any _).mono ?_; rintro e w6 ⟨rfl, hB6⟩)
        go_ret
        exact ⟨rfl, hB04.trans (hB6.mono hB04.size)⟩
    | true =>
      have h2 : okL ys = false := by rcases ho with h | h <;> simp_all
      rw [errR_ok h1, errR_bad h2]
      go_wp2_with (go_at_call 10; refine (alive_any _).mono ?_; rintro e w6 ⟨rfl, hB6⟩)
      go_ret
      exact ⟨rfl, hB04.trans (hB6.mono hB04.size)⟩
  · have hB : Below w.heap.size w w1 := hB1
    clear hno
    go_wp2_with fail
    refine (encode_any _ xs _ ((hI.below hB).mono hB.size)).mono ?_
    rintro e w3 ⟨x, rfl, hr3, hB3⟩
    have hB03 := hB.trans (hB3.mono hB.size)
    go_wp2_with fail
    refine (encode_any _ ys _ ((hJ.below hB03).mono hB03.size)).mono ?_
    rintro e w4 ⟨y, rfl, hr4, hB4⟩
    have hB04 := hB03.trans (hB4.mono hB03.size)
    clear hr3 hr4
    cases h1 : okL xs with
    | false =>
      rw [errR_bad h1]
      cases h2 : okL ys with
      | false =>
        rw [errR_bad h2]
        go_wp2_with (go_at_call 10; refine (alive_any _).mono ?_; rintro e w6 ⟨rfl, hB6⟩)
        go_ret
        exact ⟨rfl, hB04.trans (hB6.mono hB04.size)⟩
      | true =>
        rw [errR_ok h2]
        go_wp2_with (go_at_call 10; refine (alive_any _).mono ?_; rintro e w6 ⟨rfl, hB6⟩)
        go_ret
        exact ⟨rfl, hB04.trans (hB6.mono hB04.size)⟩
    | true =>
      have h2 : okL ys = false := by rcases ho with h | h <;> simp_all
      rw [errR_ok h1, errR_bad h2]
      go_wp2_with (go_at_call 10; refine (alive_any _).mono ?_; rintro e w6 ⟨rfl, hB6⟩)
      go_ret
      exact ⟨rfl, hB04.trans (hB6.mono hB04.size)⟩

set_option maxRecDepth 100000 in
set_option maxHeartbeats 4000000 in
theorem back_ok (hdec : DecSaid) (a b d : Option Addr) (len cap len2 cap2 dl dc : Nat) (xs ys : List Fd) (zs : List Int) (w : World) (hI : Flds w.heap.size w (.slice a len cap) xs) (hJ : Flds w.heap.size w (.slice b len2 cap2) ys) (hZ : Bts w.heap.size w (.slice d dl dc) zs) (hf : fewB xs = true) (hf2 : fewB ys = true) (hd : decide ((5000 : Int) < (dl : Int)) = false) (hdl : dl ≤ 9223372036854775807)
    (hox : okL xs = true) (hoy : okL ys = true) (HX : Hid (xs.length ≤ 250)) (HY : Hid (ys.length ≤ 250)) :
    Calls Try.prog 4 #[.slice a len cap, .slice b len2 cap2, .slice d dl dc] w fun e w' => e = .returned (.bool true) ∧ Below w.heap.size w w' := by
  go_enter Try.func4, Try.ntmps4
  go_wp2_with fail
  refine (few_any _ xs _ hI).mono ?_
  rintro e w1 ⟨rfl, hw⟩
  subst hw
  rw [hf]
  go_wp2_with fail
  refine (few_any _ ys _ hJ).mono ?_
  rintro e w1 ⟨rfl, hw⟩
  subst hw
  rw [hf2]
  go_wp2_with fail
  refine (hdec _ zs _ hZ).mono ?_
  rintro e w1 ⟨(⟨z, zfs, rfl, hFz, hez, hoz⟩ | ⟨rfl, hno⟩), hB1⟩
  · go_wp2_with fail
    refine (encode_any _ zfs _ hFz).mono ?_
    rintro e W ⟨wv, rfl, hrw, hBw⟩
    rw [errR_ok hoz]
    rw [encR_ok hoz, ← hez] at hrw
    obtain ⟨A, HA⟩ : ∃ A, Hid (strOfNums zs = A) := ⟨_, rfl⟩
    have hB : Below w.heap.size w W := hB1.trans (hBw.mono hB1.size)
    have k1 := run_conv (Bts.of_own hrw hZ.2)
    have k2 := run_conv (hZ.below hB)
    rw [HA.out] at k1 k2
    clear hez hoz hFz
    go_wp2_with fail
    clear k1 k2
    refine (encode_any _ xs _ ((hI.below hB).mono hB.size)).mono ?_
    rintro e w3 ⟨x, rfl, hr3, hB3⟩
    have hB03 := hB.trans (hB3.mono hB.size)
    rw [errR_ok hox]
    rw [encR_ok hox] at hr3
    go_wp2_with fail
    refine (encode_any _ ys _ ((hJ.below hB03).mono hB03.size)).mono ?_
    rintro e w4 ⟨y, rfl, hr4, hB4⟩
    have hB04 := hB03.trans (hB4.mono hB03.size)
    rw [errR_ok hoy]
    rw [encR_ok hoy] at hr4
    go_wp2_with fail
    have bx4 := ((Bts.of_own hr3 (encL_byte hI.2 hox)).below hB4).mono hB4.size
    have by4 := Bts.of_own hr4 (encL_byte hJ.2 hoy)
    clear hr3 hr4
    refine (hdec _ (encL xs) _ bx4).mono ?_
    rintro e w5 ⟨(⟨u, us, rfl, hFu, heu, hou⟩ | ⟨rfl, hno5⟩), hB5⟩
    rotate_left
    · exact absurd rfl (hno5 xs hox)
    have hsu : us.map said = xs.map said := (encL_inj heu).symm
    have hB05 := hB04.trans (hB5.mono hB04.size)
    go_wp2_with fail
    refine (same_all _ _ us xs _ hFu ((hI.below hB05).mono hB05.size)).mono ?_
    rintro e w6 ⟨rfl, hB6⟩
    rw [show decide (us.map said = xs.map said) = true from by simp [hsu]]
    clear hsu hFu heu hou
    have hB06 := hB05.trans (hB6.mono hB05.size)
    have hB46 := hB5.trans (hB6.mono hB5.size)
    have bx6 := (bx4.below hB46).mono hB46.size
    have by6 := (by4.below hB46).mono hB46.size
    have hs06 := hB06.size
    go_wp2_with (first
      | (at_builtin; refine wpList_append_bts _ rfl (.tmp 103) (.tmp 104) rfl w6.heap.size w6.heap.size _ _ _ [] (encL xs) rfl rfl (lit_zero w6 _ (Nat.le_refl _)) (bx6.below ((Below.refl _ w6).alloc (Nat.le_refl _) _)) (by have := encL_ok_le hox; omega) (by simp) ?_; intro v7 w7 hr7 hg7; have hB7 : Below w6.heap.size w6 w7 := ((Below.refl _ w6).alloc (Nat.le_refl _) _).grown hg7 (by simp) (fun k e => by cases e; exact Nat.le_refl _); have hs7 := hB7.size)
      | (at_builtin; go_must (refine wpList_append_bts _ rfl (.tmp 105) (.tmp 106) rfl w6.heap.size w6.heap.size _ _ _ _ (encL ys) rfl rfl hr7 (by6.below hB7) (by have := encL_ok_le hox; have := encL_ok_le hoy; omega) hs7 ?_); intro v8 w8 hr8 hg8; have hB8 : Below w6.heap.size w6 w8 := hB7.grown hg8 hs7 (fun k e => (hr7.lt k e).1)))
    rw [List.nil_append, ← encL_append'] at hr8
    have b8 : Bts w8.heap.size w8 v8 (encL (xs ++ ys)) := Bts.of_own hr8 (by intro z hz; rw [encL_append'] at hz; rcases List.mem_append.1 hz with h | h; exact encL_byte hI.2 hox z h; exact encL_byte hJ.2 hoy z h)
    have hB08 := hB06.trans (hB8.mono hs06)
    refine (hdec _ (encL (xs ++ ys)) _ b8).mono ?_
    rintro e w9 ⟨h9, hB9⟩
    have hB09 := hB08.trans (hB9.mono hB08.size)
    have hs09 := hB09.size
    clear hr7 hg7 hr8 hg8 b8 bx4 by4 bx6 by6
    cases hall : decide (xs.length + ys.length ≤ 200) with
    | true =>
      have hol : okL (xs ++ ys) = true := by rw [okL_app hox hoy, hall]
      rcases h9 with ⟨v9, vs, rfl, hFv, hev, hov⟩ | ⟨rfl, hno9⟩
      rotate_left
      · exact absurd rfl (hno9 _ hol)
      have hsv : vs.map said = (xs ++ ys).map said := (encL_inj hev).symm
      go_wp2_with (first
        | (at_builtin; refine wpList_append_flds _ rfl (.tmp 111) (.tmp 112) rfl w9.heap.size w.heap.size _ _ _ [] xs rfl rfl (lit0 w9 _ (Nat.le_refl _)) ((hI.below hB09).below ((Below.refl _ w9).alloc hs09 _)) (by have := HX.out; omega) (by simp) ?_; intro v10 w10 hr10 hg10; have hB10 : Below w9.heap.size w9 w10 := ((Below.refl _ w9).alloc (Nat.le_refl _) _).grown hg10 (by simp) (fun k e => by cases e; exact Nat.le_refl _); have hs10 := hB10.size)
        | (at_builtin; go_must (refine wpList_append_flds _ rfl (.tmp 113) (.tmp 114) rfl w9.heap.size w.heap.size _ _ _ _ ys rfl rfl hr10 ((hJ.below hB09).below (hB10.mono hs09)) (by have := HX.out; have := HY.out; omega) hs10 ?_); intro v11 w11 hr11 hg11; have hB11 : Below w9.heap.size w9 w11 := hB10.grown hg11 hs10 (fun k e => (hr10.lt k e).1)))
      rw [List.nil_append] at hr11
      have hB011 := hB09.trans (hB11.mono hs09)
      have hFa : Flds w11.heap.size w11 v11 (xs ++ ys) := Flds.of_own hr11 (by
        intro x hx
        rcases List.mem_append.1 hx with h | h
        · exact ((hI.2 x h).below hB011).mono hB011.size
        · exact ((hJ.2 x h).below hB011).mono hB011.size)
      refine (same_all _ _ vs (xs ++ ys) _ ((hFv.below hB11).mono hB11.size) hFa).mono ?_
      rintro e w13 ⟨rfl, hB13⟩
      have hB013 := hB011.trans (hB13.mono hB011.size)
      clear hr10 hg10 hr11 hg11
      rw [show decide (vs.map said = (xs ++ ys).map said) = true from by simp only [hsv, decide_true]]
      obtain ⟨ga, gl, gc, rfl, hgl⟩ := hFa.form
      have t200 : decide ((200 : Int) < (gl : Int)) = false := by simp at hall ⊢; rw [List.length_append] at hgl; omega
      clear hgl
      go_wp2_with (go_at_call 10; refine (alive_any _).mono ?_; rintro e w14 ⟨rfl, hB14⟩)
      go_ret
      exact ⟨rfl, hB013.trans (hB14.mono hB013.size)⟩
    | false =>
      have hol : okL (xs ++ ys) = false := by rw [okL_app hox hoy, hall]
      rcases h9 with ⟨v9, vs, rfl, hFv, hev, hov⟩ | ⟨rfl, hno9⟩
      · have hsv : vs.map said = (xs ++ ys).map said := (encL_inj hev).symm
        rw [okL_said hsv, hol] at hov
        cases hov
      have hFv : Flds w9.heap.size w9 (.slice none 0 0) [] := ⟨.inl ⟨.inl rfl, rfl⟩, fun x hx => by cases hx⟩
      clear hno9
      obtain ⟨vs, hvs⟩ : ∃ vs : List Fd, [] = vs := ⟨_, rfl⟩
      rw [hvs] at hFv
      go_wp2_with (first
        | (at_builtin; refine wpList_append_flds _ rfl (.tmp 111) (.tmp 112) rfl w9.heap.size w.heap.size _ _ _ [] xs rfl rfl (lit0 w9 _ (Nat.le_refl _)) ((hI.below hB09).below ((Below.refl _ w9).alloc hs09 _)) (by have := HX.out; omega) (by simp) ?_; intro v10 w10 hr10 hg10; have hB10 : Below w9.heap.size w9 w10 := ((Below.refl _ w9).alloc (Nat.le_refl _) _).grown hg10 (by simp) (fun k e => by cases e; exact Nat.le_refl _); have hs10 := hB10.size)
        | (at_builtin; go_must (refine wpList_append_flds _ rfl (.tmp 113) (.tmp 114) rfl w9.heap.size w.heap.size _ _ _ _ ys rfl rfl hr10 ((hJ.below hB09).below (hB10.mono hs09)) (by have := HX.out; have := HY.out; omega) hs10 ?_); intro v11 w11 hr11 hg11; have hB11 : Below w9.heap.size w9 w11 := hB10.grown hg11 hs10 (fun k e => (hr10.lt k e).1)))
      rw [List.nil_append] at hr11
      have hB011 := hB09.trans (hB11.mono hs09)
      have hFa : Flds w11.heap.size w11 v11 (xs ++ ys) := Flds.of_own hr11 (by
        intro x hx
        rcases List.mem_append.1 hx with h | h
        · exact ((hI.2 x h).below hB011).mono hB011.size
        · exact ((hJ.2 x h).below hB011).mono hB011.size)
      refine (same_all _ _ vs (xs ++ ys) _ ((hFv.below hB11).mono hB11.size) hFa).mono ?_
      rintro e w13 ⟨rfl, hB13⟩
      have hB013 := hB011.trans (hB13.mono hB011.size)
      clear hr10 hg10 hr11 hg11
      generalize decide (vs.map said = (xs ++ ys).map said) = two
      obtain ⟨ga, gl, gc, rfl, hgl⟩ := hFa.form
      have t200 : decide ((200 : Int) < (gl : Int)) = true := by simp at hall ⊢; rw [List.length_append] at hgl; omega
      clear hgl
      go_wp2_with (go_at_call 10; refine (alive_any _).mono ?_; rintro e w14 ⟨rfl, hB14⟩)
      go_ret
      exact ⟨rfl, hB013.trans (hB14.mono hB013.size)⟩
  · have hB : Below w.heap.size w w1 := hB1
    clear hno
    go_wp2_with fail
    refine (encode_any _ xs _ ((hI.below hB).mono hB.size)).mono ?_
    rintro e w3 ⟨x, rfl, hr3, hB3⟩
    have hB03 := hB.trans (hB3.mono hB.size)
    rw [errR_ok hox]
    rw [encR_ok hox] at hr3
    go_wp2_with fail
    refine (encode_any _ ys _ ((hJ.below hB03).mono hB03.size)).mono ?_
    rintro e w4 ⟨y, rfl, hr4, hB4⟩
    have hB04 := hB03.trans (hB4.mono hB03.size)
    rw [errR_ok hoy]
    rw [encR_ok hoy] at hr4
    go_wp2_with fail
    have bx4 := ((Bts.of_own hr3 (encL_byte hI.2 hox)).below hB4).mono hB4.size
    have by4 := Bts.of_own hr4 (encL_byte hJ.2 hoy)
    clear hr3 hr4
    refine (hdec _ (encL xs) _ bx4).mono ?_
    rintro e w5 ⟨(⟨u, us, rfl, hFu, heu, hou⟩ | ⟨rfl, hno5⟩), hB5⟩
    rotate_left
    · exact absurd rfl (hno5 xs hox)
    have hsu : us.map said = xs.map said := (encL_inj heu).symm
    have hB05 := hB04.trans (hB5.mono hB04.size)
    go_wp2_with fail
    refine (same_all _ _ us xs _ hFu ((hI.below hB05).mono hB05.size)).mono ?_
    rintro e w6 ⟨rfl, hB6⟩
    rw [show decide (us.map said = xs.map said) = true from by simp [hsu]]
    clear hsu hFu heu hou
    have hB06 := hB05.trans (hB6.mono hB05.size)
    have hB46 := hB5.trans (hB6.mono hB5.size)
    have bx6 := (bx4.below hB46).mono hB46.size
    have by6 := (by4.below hB46).mono hB46.size
    have hs06 := hB06.size
    go_wp2_with (first
      | (at_builtin; refine wpList_append_bts _ rfl (.tmp 103) (.tmp 104) rfl w6.heap.size w6.heap.size _ _ _ [] (encL xs) rfl rfl (lit_zero w6 _ (Nat.le_refl _)) (bx6.below ((Below.refl _ w6).alloc (Nat.le_refl _) _)) (by have := encL_ok_le hox; omega) (by simp) ?_; intro v7 w7 hr7 hg7; have hB7 : Below w6.heap.size w6 w7 := ((Below.refl _ w6).alloc (Nat.le_refl _) _).grown hg7 (by simp) (fun k e => by cases e; exact Nat.le_refl _); have hs7 := hB7.size)
      | (at_builtin; go_must (refine wpList_append_bts _ rfl (.tmp 105) (.tmp 106) rfl w6.heap.size w6.heap.size _ _ _ _ (encL ys) rfl rfl hr7 (by6.below hB7) (by have := encL_ok_le hox; have := encL_ok_le hoy; omega) hs7 ?_); intro v8 w8 hr8 hg8; have hB8 : Below w6.heap.size w6 w8 := hB7.grown hg8 hs7 (fun k e => (hr7.lt k e).1)))
    rw [List.nil_append, ← encL_append'] at hr8
    have b8 : Bts w8.heap.size w8 v8 (encL (xs ++ ys)) := Bts.of_own hr8 (by intro z hz; rw [encL_append'] at hz; rcases List.mem_append.1 hz with h | h; exact encL_byte hI.2 hox z h; exact encL_byte hJ.2 hoy z h)
    have hB08 := hB06.trans (hB8.mono hs06)
    refine (hdec _ (encL (xs ++ ys)) _ b8).mono ?_
    rintro e w9 ⟨h9, hB9⟩
    have hB09 := hB08.trans (hB9.mono hB08.size)
    have hs09 := hB09.size
    clear hr7 hg7 hr8 hg8 b8 bx4 by4 bx6 by6
    cases hall : decide (xs.length + ys.length ≤ 200) with
    | true =>
      have hol : okL (xs ++ ys) = true := by rw [okL_app hox hoy, hall]
      rcases h9 with ⟨v9, vs, rfl, hFv, hev, hov⟩ | ⟨rfl, hno9⟩
      rotate_left
      · exact absurd rfl (hno9 _ hol)
      have hsv : vs.map said = (xs ++ ys).map said := (encL_inj hev).symm
      go_wp2_with (first
        | (at_builtin; refine wpList_append_flds _ rfl (.tmp 111) (.tmp 112) rfl w9.heap.size w.heap.size _ _ _ [] xs rfl rfl (lit0 w9 _ (Nat.le_refl _)) ((hI.below hB09).below ((Below.refl _ w9).alloc hs09 _)) (by have := HX.out; omega) (by simp) ?_; intro v10 w10 hr10 hg10; have hB10 : Below w9.heap.size w9 w10 := ((Below.refl _ w9).alloc (Nat.le_refl _) _).grown hg10 (by simp) (fun k e => by cases e; exact Nat.le_refl _); have hs10 := hB10.size)
        | (at_builtin; go_must (refine wpList_append_flds _ rfl (.tmp 113) (.tmp 114) rfl w9.heap.size w.heap.size _ _ _ _ ys rfl rfl hr10 ((hJ.below hB09).below (hB10.mono hs09)) (by have := HX.out; have := HY.out; omega) hs10 ?_); intro v11 w11 hr11 hg11; have hB11 : Below w9.heap.size w9 w11 := hB10.grown hg11 hs10 (fun k e => (hr10.lt k e).1)))
      rw [List.nil_append] at hr11
      have hB011 := hB09.trans (hB11.mono hs09)
      have hFa : Flds w11.heap.size w11 v11 (xs ++ ys) := Flds.of_own hr11 (by
        intro x hx
        rcases List.mem_append.1 hx with h | h
        · exact ((hI.2 x h).below hB011).mono hB011.size
        · exact ((hJ.2 x h).below hB011).mono hB011.size)
      refine (same_all _ _ vs (xs ++ ys) _ ((hFv.below hB11).mono hB11.size) hFa).mono ?_
      rintro e w13 ⟨rfl, hB13⟩
      have hB013 := hB011.trans (hB13.mono hB011.size)
      clear hr10 hg10 hr11 hg11
      rw [show decide (vs.map said = (xs ++ ys).map said) = true from by simp only [hsv, decide_true]]
      obtain ⟨ga, gl, gc, rfl, hgl⟩ := hFa.form
      have t200 : decide ((200 : Int) < (gl : Int)) = false := by simp at hall ⊢; rw [List.length_append] at hgl; omega
      clear hgl
      go_wp2_with (go_at_call 10; refine (alive_any _).mono ?_; rintro e w14 ⟨rfl, hB14⟩)
      go_ret
      exact ⟨rfl, hB013.trans (hB14.mono hB013.size)⟩
    | false =>
      have hol : okL (xs ++ ys) = false := by rw [okL_app hox hoy, hall]
      rcases h9 with ⟨v9, vs, rfl, hFv, hev, hov⟩ | ⟨rfl, hno9⟩
      · have hsv : vs.map said = (xs ++ ys).map said := (encL_inj hev).symm
        rw [okL_said hsv, hol] at hov
        cases hov
      have hFv : Flds w9.heap.size w9 (.slice none 0 0) [] := ⟨.inl ⟨.inl rfl, rfl⟩, fun x hx => by cases hx⟩
      clear hno9
      obtain ⟨vs, hvs⟩ : ∃ vs : List Fd, [] = vs := ⟨_, rfl⟩
      rw [hvs] at hFv
      go_wp2_with (first
        | (at_builtin; refine wpList_append_flds _ rfl (.tmp 111) (.tmp 112) rfl w9.heap.size w.heap.size _ _ _ [] xs rfl rfl (lit0 w9 _ (Nat.le_refl _)) ((hI.below hB09).below ((Below.refl _ w9).alloc hs09 _)) (by have := HX.out; omega) (by simp) ?_; intro v10 w10 hr10 hg10; have hB10 : Below w9.heap.size w9 w10 := ((Below.refl _ w9).alloc (Nat.le_refl _) _).grown hg10 (by simp) (fun k e => by cases e; exact Nat.le_refl _); have hs10 := hB10.size)
        | (at_builtin; go_must (refine wpList_append_flds _ rfl (.tmp 113) (.tmp 114) rfl w9.heap.size w.heap.size _ _ _ _ ys rfl rfl hr10 ((hJ.below hB09).below (hB10.mono hs09)) (by have := HX.out; have := HY.out; omega) hs10 ?_); intro v11 w11 hr11 hg11; have hB11 : Below w9.heap.size w9 w11 := hB10.grown hg11 hs10 (fun k e => (hr10.lt k e).1)))
      rw [List.nil_append] at hr11
      have hB011 := hB09.trans (hB11.mono hs09)
      have hFa : Flds w11.heap.size w11 v11 (xs ++ ys) := Flds.of_own hr11 (by
        intro x hx
        rcases List.mem_append.1 hx with h | h
        · exact ((hI.2 x h).below hB011).mono hB011.size
        · exact ((hJ.2 x h).below hB011).mono hB011.size)
      refine (same_all _ _ vs (xs ++ ys) _ ((hFv.below hB11).mono hB11.size) hFa).mono ?_
      rintro e w13 ⟨rfl, hB13⟩
      have hB013 := hB011.trans (hB13.mono hB011.size)
      clear hr10 hg10 hr11 hg11
      generalize decide (vs.map said = (xs ++ ys).map said) = two
      obtain ⟨ga, gl, gc, rfl, hgl⟩ := hFa.form
      have t200 : decide ((200 : Int) < (gl : Int)) = true := by simp at hall ⊢; rw [List.length_append] at hgl; omega
      clear hgl
      go_wp2_with (go_at_call 10; refine (alive_any _).mono ?_; rintro e w14 ⟨rfl, hB14⟩)
      go_ret
      exact ⟨rfl, hB013.trans (hB14.mono hB013.size)⟩

end Go.Proofs.Ytbkiafedadofdaa
