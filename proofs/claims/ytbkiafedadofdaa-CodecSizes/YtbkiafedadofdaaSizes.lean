/- For every list of fields, every int and every slice of bytes the law CodecSizes answers true, and all three read afterwards as before: no condition. -/
import Derived.Test.YtbkiafedadofdaaRows
import Derived.Test.YtbkiafedadofdaaFields
import Derived.Test.YtbkiafedadofdaaSizw
namespace Go.Proofs.Ytbkiafedadofdaa
open Go.ChangeShapes Go.WideShapes Go.ChangeAt Go.RowKit Plain
set_option linter.unusedVariables false

theorem set_split {α : Type} (xs : List α) (q : Nat) (y : α) (h : q < xs.length) : xs.set q y = xs.take q ++ y :: xs.drop (q + 1) := List.set_eq_take_append_cons_drop .. ▸ by rw [if_pos h]
theorem self_split {α : Type} (xs : List α) (q : Nat) (x : α) (h : xs[q]? = some x) : xs = xs.take q ++ x :: xs.drop (q + 1) := by
  obtain ⟨hq, e⟩ := List.getElem?_eq_some_iff.1 h
  conv => lhs; rw [← List.take_append_drop q xs, List.drop_eq_getElem_cons hq, e]
theorem encL_append (xs ys : List Fd) : encL (xs ++ ys) = encL xs ++ encL ys := List.flatMap_append
theorem encL_cons (x : Fd) (xs : List Fd) : encL (x :: xs) = encF x ++ encL xs := rfl
theorem encF_inj {x y : Fd} (ht : x.tag = y.tag) : encF x = encF y ↔ x.zs = y.zs := by
  simp only [encF, List.cons.injEq]
  exact ⟨fun h => h.2.2.2, fun h => by rw [h]; exact ⟨ht, rfl, rfl, rfl⟩⟩
theorem encF_len (x : Fd) : (encF x).length = 3 + x.zs.length := by simp [encF]; omega
/-- Of two lists that are alike but for one field's bytes. -/
theorem encL_set_eq {xs : List Fd} {q : Nat} {x y : Fd} (h : xs[q]? = some x) (ht : y.tag = x.tag) : encL xs = encL (xs.set q y) ↔ y.zs = x.zs := by
  have hq := (List.getElem?_eq_some_iff.1 h).1
  rw [set_split xs q y hq]
  conv => lhs; lhs; rw [self_split xs q x h]
  rw [encL_append, encL_append, encL_cons, encL_cons]
  constructor
  · intro e
    have e2 := List.append_cancel_left e
    -- the two fields' bytes: their heads tell how long they are
    simp only [encF, List.cons_append, List.cons.injEq] at e2
    obtain ⟨_, e3, e4, e5⟩ := e2
    have hl : x.zs.length = y.zs.length := by omega
    exact (List.append_inj_left e5 hl).symm
  · intro e
    rw [(encF_inj ht).2 e]
theorem encL_set_len {xs : List Fd} {q : Nat} {x y : Fd} (h : xs[q]? = some x) : (encL (xs.set q y)).length + x.zs.length = (encL xs).length + y.zs.length := by
  have hq := (List.getElem?_eq_some_iff.1 h).1
  rw [set_split xs q y hq]
  conv => rhs; rw [self_split xs q x h]
  rw [encL_append, encL_append, encL_cons, encL_cons]
  simp only [List.length_append, encF_len]
  omega
theorem lenSum_encL (xs : List Fd) (f : Nat → Nat) (h : ∀ j x, xs[j]? = some x → f j = x.zs.length) : lenSum f xs.length = (encL xs).length := by
  have gen : ∀ k, k ≤ xs.length → lenSum f k = (encL (xs.take k)).length := by
    intro k
    induction k with
    | zero => intro _; rfl
    | succ k ih =>
      intro hk
      have hx : xs[k]? = some (xs[k]'(by omega)) := List.getElem?_eq_getElem _
      rw [lenSum, ih (by omega), List.take_succ_eq_append_getElem (by omega), encL_append, List.length_append, h k _ hx]
      simp only [encL, List.flatMap_cons, List.flatMap_nil, List.append_nil, encF_len]
      omega
  have := gen xs.length (Nat.le_refl _)
  rwa [List.take_length] at this
theorem okL_set {xs : List Fd} {q : Nat} {x y : Fd} (h : xs[q]? = some x) (ho : okL xs = true) (ht : y.tag = x.tag) : okL (xs.set q y) = decide (y.zs.length ≤ 2000) := by
  have hq := (List.getElem?_eq_some_iff.1 h).1
  simp only [okL, Bool.and_eq_true, decide_eq_true_eq, List.all_eq_true] at ho
  have hx := rightB_true (ho.2 x (List.mem_of_getElem? h))
  rw [Bool.eq_iff_iff]
  simp only [okL, Bool.and_eq_true, decide_eq_true_eq, List.all_eq_true, List.length_set]
  constructor
  · rintro ⟨_, hall⟩
    have := rightB_true (hall y (List.mem_set hq y))
    omega
  · intro hy
    refine ⟨ho.1, fun z hz => ?_⟩
    rcases List.mem_or_eq_of_mem_set hz with h' | h'
    · exact ho.2 z h'
    · subst h'
      simp only [Fd.right, rightB, Bool.and_eq_true, decide_eq_true_eq, ht]
      exact ⟨⟨hx.1, hx.2.1⟩, hy⟩

theorem sizes_any (a da : Option Addr) (len cap dl dc : Nat) (at_ : Int) (xs : List Fd) (ds : List Int) (w : World) (hI : Flds w.heap.size w (.slice a len cap) xs) (hD : Bts w.heap.size w (.slice da dl dc) ds) (hat : -9223372036854775808 ≤ at_ ∧ at_ ≤ 9223372036854775807) :
    Calls Try.prog 8 #[.slice a len cap, .int .i64 at_, .slice da dl dc] w fun e w' => e = .returned (.bool true) ∧ Below w.heap.size w w' := by
  cases hf : fewB xs with
  | false => exact sizes_few a da len cap dl dc at_ xs w hI hf
  | true =>
    by_cases h0 : len = 0
    · subst h0; exact sizes_none a da cap dl dc at_ xs w hI hf
    · have h0' : ((len : Int) == 0) = false := by simp; omega
      by_cases hd : 5000 < dl
      · exact sizes_long a da len cap dl dc at_ xs w hI hf h0' (by omega)
      · have hd' : decide ((5000 : Int) < (dl : Int)) = false := by simp; omega
        cases ho : okL xs with
        | false => exact sizes_bad a da len cap dl dc at_ xs w hI hf h0' hd' ho
        | true =>
          have hxl := hI.len
          have hdl := hD.len
          have hI' := hI
          obtain ⟨⟨e | ⟨ad, cap', e⟩, hx⟩ | ⟨b, off, cap', e, hb, hl, hm, hc⟩, hok⟩ := hI'
          · simp at e; omega
          · simp at e; omega
          · simp only [Value.slice.injEq] at e
            obtain ⟨rfl, e2, rfl⟩ := e
            haveI : Inhabited Fd := ⟨⟨0, none, 0, 0, []⟩⟩
            have hx : ∀ j, j < len → xs[j]? = some (xs[j]?.getD default) := fun j hj => by rw [List.getElem?_eq_getElem (by omega)]; rfl
            have hfb := hf
            simp only [fewB, Bool.and_eq_true, decide_eq_true_eq, List.all_eq_true] at hfb
            have hlen : ∀ (j : Nat) (x : Fd), xs[j]? = some x → x.len = x.zs.length := fun j x h => (hok x (List.mem_of_getElem? h)).len
            have hoe : encR xs = encL xs := by simp [encR, ho]
            -- the place
            obtain ⟨q, hq, hs⟩ : ∃ q : Nat, q < len ∧ ((at_ < 0 ∧ -(at_ + 1).tmod ↑len = ↑q) ∨ (0 ≤ at_ ∧ at_ % ↑len = ↑q)) := by
              have hp : (0 : Int) < (len : Int) := by omega
              by_cases hn : at_ < 0
              · refine ⟨((-(at_ + 1)) % (len : Int)).toNat, ?_, .inl ⟨hn, ?_⟩⟩
                · have := Int.emod_lt_of_pos (-(at_ + 1)) hp
                  have := Int.emod_nonneg (-(at_ + 1)) (b := (len : Int)) (by omega)
                  omega
                · rw [← Int.neg_tmod, Int.tmod_eq_emod_of_nonneg (by omega)]
                  have := Int.emod_nonneg (-(at_ + 1)) (b := (len : Int)) (by omega)
                  omega
              · refine ⟨(at_ % (len : Int)).toNat, ?_, .inr ⟨by omega, ?_⟩⟩
                · have := Int.emod_lt_of_pos at_ hp
                  have := Int.emod_nonneg at_ (b := (len : Int)) (by omega)
                  omega
                · have := Int.emod_nonneg at_ (b := (len : Int)) (by omega)
                  omega
            have hfq := hx q hq
            generalize hy : (⟨(xs[q]?.getD default).tag, da, dl, dc, ds⟩ : Fd) = y
            have hyt : y.tag = (xs[q]?.getD default).tag := by rw [← hy]
            have hyz : y.zs = ds := by rw [← hy]
            have hsum : lenSum (fun j => ((fun j => xs[j]?.getD default) j : Fd).len) len = (encR xs).length := by
              rw [hoe, hxl]
              refine lenSum_encL xs _ (fun j x h => ?_)
              show (xs[j]?.getD default).len = _
              rw [h]; exact hlen j x h
            have hLp : 0 < (encR xs).length := by
              rw [hoe]
              conv => rhs; rw [self_split xs q _ hfq]
              rw [encL_append, encL_cons, List.length_append, List.length_append, encF_len]
              omega
            have hf5 : ∀ j, j < len → ((fun j => xs[j]?.getD default) j : Fd).len ≤ 5000 := fun j hj => by
              show (xs[j]?.getD default).len ≤ 5000
              rw [hlen j _ (hx j hj)]
              exact hfb.2 _ (List.mem_of_getElem? (hx j hj))
            have hcc : ∀ j, j < len → w.cell? ⟨b, off + j * 2 + 1, none⟩ = some (.slice ((fun j => xs[j]?.getD default) j : Fd).a ((fun j => xs[j]?.getD default) j : Fd).len ((fun j => xs[j]?.getD default) j : Fd).cap) := fun j hj => (hc j _ (hx j hj)).2
            have hYo := okL_set hfq ho hyt
            by_cases hd2 : ds.length ≤ 2000
            · have hyo : okL (xs.set q y) = true := by rw [hYo, hyz]; simpa using hd2
              have hoe2 : encR (xs.set q y) = encL (xs.set q y) := by simp [encR, hyo]
              have hL2 := encL_set_len (y := y) hfq
              rw [hyz] at hL2
              have hleq := hlen q _ hfq
              refine sizes_core2 b off len cap dl dc q da at_ xs ds w hI hD hf h0' hd' ho hat hq hs (fun j => xs[j]?.getD default) hb (by omega) hf5 hcc hLp hxl.symm hsum hfq (xs.set q y) (by show _ = _; rw [← hy]) hyo _ ?_ rfl ?_ _ _ _ _ _ rfl rfl rfl rfl (str_eq (encR_byte hok) ?_) ?_
              · rw [hoe2]
                rw [hoe] at hLp
                have h3 : (xs[q]?.getD default).zs.length + 3 ≤ (encL xs).length := by
                  conv => rhs; rw [self_split xs q _ hfq]
                  rw [encL_append, encL_cons, List.length_append, List.length_append, encF_len]
                  omega
                omega
              · rw [hoe2, hoe]
                simp only [beq_iff_eq]
                omega
              · rw [hoe2]
                intro z hz
                have : encR (xs.set q y) = encL (xs.set q y) := hoe2
                obtain ⟨x, hxm, hzx⟩ := List.mem_flatMap.1 hz
                simp only [okL, Bool.and_eq_true, List.all_eq_true] at hyo
                rcases List.mem_or_eq_of_mem_set hxm with h' | h'
                · exact encF_byte x _ _ (hok x h') (hyo.2 x hxm) z hzx
                · refine encF_byte x w.heap.size w ?_ (hyo.2 x hxm) z hzx
                  rw [h', ← hy]
                  exact ⟨hD, (hok _ (List.mem_of_getElem? hfq)).2⟩
              · rw [hoe, hoe2, str_eq hD.2 (hok _ (List.mem_of_getElem? hfq)).1.2]
                rw [Bool.eq_iff_iff]
                simp only [decide_eq_true_eq]
                rw [encL_set_eq hfq hyt, hyz]
            · have hyo : okL (xs.set q y) = false := by rw [hYo, hyz]; simpa using hd2
              exact sizes_core b off len cap dl dc q da at_ xs ds w hI hD hf h0' hd' ho hat hq hs (fun j => xs[j]?.getD default) hb (by omega) hf5 hcc hLp hxl.symm hsum hfq (xs.set q y) (by show _ = _; rw [← hy]) hyo (by omega)

set_option maxRecDepth 100000 in
theorem codecSizes_lifted (os : Os) (started : os.Started) (H : Type) (enc : TypeId × Value → H) :
    ReturnsInHanded {} Try.checked os 8 .any (Rows.codecSizesSpec.pre6 enc Try.prog Try.f8 Rows.codecSizesRow.domain false) (Rows.codecSizesSpec.post enc Try.prog Try.f8 false true false false) := by
  refine returnsInHanded_of_change (C := Try.checked) own started (by kernel_rfl) Try.func8
    (ChangeSpec.witness6 (enc := enc) (C := Try.checked) false ⟨#[], #[.slice none 0 0, .int .i64 0, .slice none 0 0], []⟩ 8 (by kernel_rfl) (by kernel_rfl) (by kernel_rfl) (by kernel_rfl)) ?_
  intro W base args ds gs before hval0 hW hcnd _
  have hval : ∀ (j : Nat) t v, Try.f8.params[j]? = some t → args[j]? = some v → Value.okWide Try.prog W .any base t v := hval0
  have hW' := hW
  obtain ⟨p, q, hA0, hV, rfl, hfz, hnd⟩ := hW
  have hA : DataW.TrodAll enc Try.prog W 0 (fun _ => true) true Try.f8.params.toList args.toList ds p := hA0
  rw [Try.params8] at hA hval
  obtain ⟨v0, vs0, d0, ds0, p0, q0, hargs, rfl, rfl, h0, r0⟩ := trodAll_cons hA
  obtain ⟨v1, vs1, d1, ds1, p1, q1, rfl, rfl, rfl, h1, r1⟩ := trodAll_cons r0
  obtain ⟨v2, vs2, d2, ds2, p2, q2, rfl, rfl, rfl, h2, r2⟩ := trodAll_cons r1
  obtain ⟨rfl, rfl, rfl⟩ := trodAll_nil r2
  obtain rfl : args = #[v0, v1, v2] := by cases args; simp_all
  obtain ⟨rfl, rfl⟩ := trodVars_none hV
  obtain ⟨a0, len0, cap0, rfl⟩ := okWide_slice Try.underlying22 (hval 0 22 v0 rfl rfl)
  have k0 := h0
  have lt0 : ∀ x ∈ p0, x.block < W.heap.size := by obtain ⟨m, hm⟩ := k0; exact DataW.trod_lt m _ _ _ hm
  obtain ⟨z0, w0⟩ := open_flds h0
  obtain ⟨a1, rfl, rfl, rfl, w1⟩ := open_int Try.underlying3 (hval 1 3 v1 rfl rfl) h1
  obtain ⟨a2, len2, cap2, rfl⟩ := okWide_slice Try.underlying23 (hval 2 23 v2 rfl rfl)
  have k2 := h2
  have lt2 : ∀ x ∈ p2, x.block < W.heap.size := by obtain ⟨m, hm⟩ := k2; exact DataW.trod_lt m _ _ _ hm
  obtain ⟨z2, w2⟩ := open_bts h2
  clear hA0 hval0
  refine (sizes_any a0 a2 len0 cap0 len2 cap2 a1 z0 z2 W w0 w2 (bounds_i64 w1)).mono fun e W' ⟨he, bel⟩ => ?_
  subst he
  exact ⟨_, rfl, _, _, _, [], _, [], hW', trodAll_mk1 (shut_bool Try.underlying4 _), (trodAll_cons_mk (Below.trod laidOut (by kernel_rfl) (of_decide_eq_true (by kernel_rfl)) k0 bel lt0) (trodAll_cons_mk (shut_int Try.underlying3 w1) (trodAll_cons_mk (Below.trod laidOut (by kernel_rfl) (of_decide_eq_true (by kernel_rfl)) k2 bel lt2) trodAll_mk0))), rfl, bel.frame _, fun h => by cases h⟩

theorem codecSizes_holds : Rows.CodecSizesSaid :=
  OpenClaim.holds_of_wide 8 Try.f8 rfl rfl rfl rfl rfl rfl rfl ⟨rfl, rfl, rfl, rfl, rfl⟩ rfl rfl rfl rfl rfl (by kernel_rfl) Try.func8 (by kernel_rfl)
    (of_decide_eq_true (by kernel_rfl)) (by unfold Func.isWrapper; first | (rw [if_pos (by decide +kernel)]; kernel_rfl) | (rw [if_neg (by decide +kernel)]; exact ⟨rfl, rfl⟩))
    (fun os started H enc _ => codecSizes_lifted os started H enc)
#print axioms codecSizes_holds
end Go.Proofs.Ytbkiafedadofdaa
