/- For every list of fields and every slice of bytes the law CodecEncodes answers true, and both read afterwards as before: no condition. -/
import Derived.Test.YtbkiafedadofdaaRows
import Derived.Test.YtbkiafedadofdaaFields
import Derived.Test.YtbkiafedadofdaaDeca
import Derived.Test.YtbkiafedadofdaaEncw
import Derived.Test.YtbkiafedadofdaaRefd
namespace Go.Proofs.Ytbkiafedadofdaa
open Go.ChangeShapes Go.WideShapes Go.ChangeAt Go.RowKit Plain
set_option linter.unusedVariables false

theorem refDecSaid : RefDecSaid := by
  intro v zs w hl hz
  have hz' := hz
  obtain ⟨a, len, cap, rfl, hlen⟩ := hz'.form
  refine refdec_core a len cap (by omega) w zs hlen.symm hz ?_
  intro j hj
  have hby := hz.2 (zs[j]?.getD 0) (by rw [List.getElem?_eq_getElem (by omega)]; simp)
  obtain ⟨⟨e | ⟨ad, c, e⟩, h⟩ | ⟨b, off, c, e, hb, _, _, hc⟩, _⟩ := hz
  · subst h; simp at hlen; omega
  · subst h; simp at hlen; omega
  · simp only [Value.slice.injEq] at e
    exact ⟨b, off, e.1, hb, hc j (by omega), hby⟩

theorem encs_any (a d : Option Addr) (len cap dl dc : Nat) (xs : List Fd) (zs : List Int) (w : World) (hI : Flds w.heap.size w (.slice a len cap) xs) (hZ : Bts w.heap.size w (.slice d dl dc) zs) :
    Calls Try.prog 3 #[.slice a len cap, .slice d dl dc] w fun e w' => e = .returned (.bool true) ∧ Below w.heap.size w w' := by
  have hdl := hZ.len_le
  cases hf : fewB xs with
  | false => exact encs_few a d len cap dl dc xs w hI (.inl hf) hdl
  | true =>
    cases hd : decide ((5000 : Int) < (dl : Int)) with
    | true => exact encs_few a d len cap dl dc xs w hI (.inr (of_decide_eq_true hd)) hdl
    | false => exact encs_core decSaid refDecSaid a d len cap dl dc xs zs w hI hZ hf hd (by have := of_decide_eq_false hd; omega) hZ.len.symm

set_option maxRecDepth 100000 in
theorem codecEncodes_lifted (os : Os) (started : os.Started) (H : Type) (enc : TypeId × Value → H) :
    ReturnsInHanded {} Try.checked os 3 .any (Rows.codecEncodesSpec.pre6 enc Try.prog Try.f3 Rows.codecEncodesRow.domain false) (Rows.codecEncodesSpec.post enc Try.prog Try.f3 false true false false) := by
  refine returnsInHanded_of_change (C := Try.checked) own started (by kernel_rfl) Try.func3
    (ChangeSpec.witness6 (enc := enc) (C := Try.checked) false ⟨#[], #[.slice none 0 0, .slice none 0 0], []⟩ 8 (by kernel_rfl) (by kernel_rfl) (by kernel_rfl) (by kernel_rfl)) ?_
  intro W base args ds gs before hval0 hW hcnd _
  have hval : ∀ (j : Nat) t v, Try.f3.params[j]? = some t → args[j]? = some v → Value.okWide Try.prog W .any base t v := hval0
  have hW' := hW
  obtain ⟨p, q, hA0, hV, rfl, hfz, hnd⟩ := hW
  have hA : DataW.TrodAll enc Try.prog W 0 (fun _ => true) true Try.f3.params.toList args.toList ds p := hA0
  rw [Try.params3] at hA hval
  obtain ⟨v0, vs0, d0, ds0, p0, q0, hargs, rfl, rfl, h0, r0⟩ := trodAll_cons hA
  obtain ⟨v1, vs1, d1, ds1, p1, q1, rfl, rfl, rfl, h1, r1⟩ := trodAll_cons r0
  obtain ⟨rfl, rfl, rfl⟩ := trodAll_nil r1
  obtain rfl : args = #[v0, v1] := by cases args; simp_all
  obtain ⟨rfl, rfl⟩ := trodVars_none hV
  obtain ⟨a0, len0, cap0, rfl⟩ := okWide_slice Try.underlying22 (hval 0 22 v0 rfl rfl)
  have k0 := h0
  have lt0 : ∀ x ∈ p0, x.block < W.heap.size := by obtain ⟨m, hm⟩ := k0; exact DataW.trod_lt m _ _ _ hm
  obtain ⟨z0, w0⟩ := open_flds h0
  obtain ⟨a1, len1, cap1, rfl⟩ := okWide_slice Try.underlying23 (hval 1 23 v1 rfl rfl)
  have k1 := h1
  have lt1 : ∀ x ∈ p1, x.block < W.heap.size := by obtain ⟨m, hm⟩ := k1; exact DataW.trod_lt m _ _ _ hm
  obtain ⟨z1, w1⟩ := open_bts h1
  clear hA0 hval0
  refine (encs_any a0 a1 len0 cap0 len1 cap1 z0 z1 W w0 w1).mono fun e W' ⟨he, bel⟩ => ?_
  subst he
  exact ⟨_, rfl, _, _, _, [], _, [], hW', trodAll_mk1 (shut_bool Try.underlying4 _), (trodAll_cons_mk (Below.trod laidOut (by kernel_rfl) (of_decide_eq_true (by kernel_rfl)) k0 bel lt0) (trodAll_cons_mk (Below.trod laidOut (by kernel_rfl) (of_decide_eq_true (by kernel_rfl)) k1 bel lt1) trodAll_mk0)), rfl, bel.frame _, fun h => by cases h⟩

theorem codecEncodes_holds : Rows.CodecEncodesSaid :=
  OpenClaim.holds_of_wide 3 Try.f3 rfl rfl rfl rfl rfl rfl rfl ⟨rfl, rfl, rfl, rfl, rfl⟩ rfl rfl rfl rfl rfl (by kernel_rfl) Try.func3 (by kernel_rfl)
    (of_decide_eq_true (by kernel_rfl)) (by unfold Func.isWrapper; first | (rw [if_pos (by decide +kernel)]; kernel_rfl) | (rw [if_neg (by decide +kernel)]; exact ⟨rfl, rfl⟩))
    (fun os started H enc _ => codecEncodes_lifted os started H enc)
#print axioms codecEncodes_holds
end Go.Proofs.Ytbkiafedadofdaa
