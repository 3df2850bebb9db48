/- For every two lists of fields and every slice of bytes the law CodecBack answers true, and all three read afterwards as before: no condition. -/
import Derived.Test.YtbkiafedadofdaaRows
import Derived.Test.YtbkiafedadofdaaFields
import Derived.Test.YtbkiafedadofdaaDeca
namespace Go.Proofs.Ytbkiafedadofdaa
open Go.ChangeShapes Go.WideShapes Go.ChangeAt Go.RowKit Plain
set_option linter.unusedVariables false

theorem back_any (a b d : Option Addr) (len cap len2 cap2 dl dc : Nat) (xs ys : List Fd) (zs : List Int) (w : World) (hI : Flds w.heap.size w (.slice a len cap) xs) (hJ : Flds w.heap.size w (.slice b len2 cap2) ys) (hZ : Bts w.heap.size w (.slice d dl dc) zs) :
    Calls Try.prog 4 #[.slice a len cap, .slice b len2 cap2, .slice d dl dc] w fun e w' => e = .returned (.bool true) ∧ Below w.heap.size w w' := by
  have hdl := hZ.len_le
  cases hf : fewB xs with
  | false => exact back_few a b d len cap len2 cap2 dl dc xs ys w hI hJ (.inl hf) hdl
  | true =>
    cases hf2 : fewB ys with
    | false => exact back_few a b d len cap len2 cap2 dl dc xs ys w hI hJ (.inr (.inl hf2)) hdl
    | true =>
      cases hd : decide ((5000 : Int) < (dl : Int)) with
      | true => exact back_few a b d len cap len2 cap2 dl dc xs ys w hI hJ (.inr (.inr (of_decide_eq_true hd))) hdl
      | false =>
        cases hox : okL xs with
        | false => exact back_bad decSaid a b d len cap len2 cap2 dl dc xs ys zs w hI hJ hZ hf hf2 hd hdl (.inl hox)
        | true =>
          cases hoy : okL ys with
          | false => exact back_bad decSaid a b d len cap len2 cap2 dl dc xs ys zs w hI hJ hZ hf hf2 hd hdl (.inr hoy)
          | true =>
            have hfb := hf
            have hfb2 := hf2
            simp only [fewB, Bool.and_eq_true, decide_eq_true_eq] at hfb hfb2
            exact back_ok decSaid a b d len cap len2 cap2 dl dc xs ys zs w hI hJ hZ hf hf2 hd hdl hox hoy hfb.1 hfb2.1

set_option maxRecDepth 100000 in
theorem codecBack_lifted (os : Os) (started : os.Started) (H : Type) (enc : TypeId × Value → H) :
    ReturnsInHanded {} Try.checked os 4 .any (Rows.codecBackSpec.pre6 enc Try.prog Try.f4 Rows.codecBackRow.domain false) (Rows.codecBackSpec.post enc Try.prog Try.f4 false true false false) := by
  refine returnsInHanded_of_change (C := Try.checked) own started (by kernel_rfl) Try.func4
    (ChangeSpec.witness6 (enc := enc) (C := Try.checked) false ⟨#[], #[.slice none 0 0, .slice none 0 0, .slice none 0 0], []⟩ 8 (by kernel_rfl) (by kernel_rfl) (by kernel_rfl) (by kernel_rfl)) ?_
  intro W base args ds gs before hval0 hW hcnd _
  have hval : ∀ (j : Nat) t v, Try.f4.params[j]? = some t → args[j]? = some v → Value.okWide Try.prog W .any base t v := hval0
  have hW' := hW
  obtain ⟨p, q, hA0, hV, rfl, hfz, hnd⟩ := hW
  have hA : DataW.TrodAll enc Try.prog W 0 (fun _ => true) true Try.f4.params.toList args.toList ds p := hA0
  rw [Try.params4] at hA hval
  obtain ⟨v0, vs0, d0, ds0, p0, q0, hargs, rfl, rfl, h0, r0⟩ := trodAll_cons hA
  obtain ⟨v1, vs1, d1, ds1, p1, q1, rfl, rfl, rfl, h1, r1⟩ := trodAll_cons r0
  obtain ⟨v2, vs2, d2, ds2, p2, q2, rfl, rfl, rfl, h2, r2⟩ := trodAll_cons r1
  obtain ⟨rfl, rfl, rfl⟩ := trodAll_nil r2
  obtain rfl : args = #[v0, v1, v2] := by cases args; simp_all
  obtain ⟨rfl, rfl⟩ := trodVars_none hV
  obtain ⟨a0, len0, cap0, rfl⟩ := okWide_slice Try.underlying22 (hval 0 22 v0 rfl rfl)
  have k0 := h0
  have lt0 : ∀ x ∈ p0, x.block < W.heap.size := by obtain ⟨m, hm⟩ := k0; exact DataW.trod_lt m _ _ _ hm
  obtain ⟨z0, w0⟩ := open_flds h0
  obtain ⟨a1, len1, cap1, rfl⟩ := okWide_slice Try.underlying22 (hval 1 22 v1 rfl rfl)
  have k1 := h1
  have lt1 : ∀ x ∈ p1, x.block < W.heap.size := by obtain ⟨m, hm⟩ := k1; exact DataW.trod_lt m _ _ _ hm
  obtain ⟨z1, w1⟩ := open_flds h1
  obtain ⟨a2, len2, cap2, rfl⟩ := okWide_slice Try.underlying23 (hval 2 23 v2 rfl rfl)
  have k2 := h2
  have lt2 : ∀ x ∈ p2, x.block < W.heap.size := by obtain ⟨m, hm⟩ := k2; exact DataW.trod_lt m _ _ _ hm
  obtain ⟨z2, w2⟩ := open_bts h2
  clear hA0 hval0
  refine (back_any a0 a1 a2 len0 cap0 len1 cap1 len2 cap2 z0 z1 z2 W w0 w1 w2).mono fun e W' ⟨he, bel⟩ => ?_
  subst he
  exact ⟨_, rfl, _, _, _, [], _, [], hW', trodAll_mk1 (shut_bool Try.underlying4 _), (trodAll_cons_mk (Below.trod laidOut (by kernel_rfl) (of_decide_eq_true (by kernel_rfl)) k0 bel lt0) (trodAll_cons_mk (Below.trod laidOut (by kernel_rfl) (of_decide_eq_true (by kernel_rfl)) k1 bel lt1) (trodAll_cons_mk (Below.trod laidOut (by kernel_rfl) (of_decide_eq_true (by kernel_rfl)) k2 bel lt2) trodAll_mk0))), rfl, bel.frame _, fun h => by cases h⟩

theorem codecBack_holds : Rows.CodecBackSaid :=
  OpenClaim.holds_of_wide 4 Try.f4 rfl rfl rfl rfl rfl rfl rfl ⟨rfl, rfl, rfl, rfl, rfl⟩ rfl rfl rfl rfl rfl (by kernel_rfl) Try.func4 (by kernel_rfl)
    (of_decide_eq_true (by kernel_rfl)) (by unfold Func.isWrapper; first | (rw [if_pos (by decide +kernel)]; kernel_rfl) | (rw [if_neg (by decide +kernel)]; exact ⟨rfl, rfl⟩))
    (fun os started H enc _ => codecBack_lifted os started H enc)
#print axioms codecBack_holds
end Go.Proofs.Ytbkiafedadofdaa
