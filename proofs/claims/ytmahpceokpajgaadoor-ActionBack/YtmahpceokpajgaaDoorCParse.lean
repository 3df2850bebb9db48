/- Bytes taken apart: which bytes begin with a field's, that a list's bytes tell the list, and codec.first at every slice of bytes. -/
import Derived.Test.YtmahpceokpajgaaDoorCFirst
namespace Go.Proofs.YtmahpceokpajgaaDoor.C
open Go.RowKit Go.Shelf Plain Go.IntWalk
set_option linter.unusedVariables false

theorem encL_cons' (x : Fd) (xs : List Fd) : encL (x :: xs) = encF x ++ encL xs := rfl
theorem encF_ne (x : Fd) (r : List Int) : encF x ++ r ≠ [] := by simp [encF]
/-- A field's bytes tell it, whatever comes behind. -/
theorem encF_split {x y : Fd} {r s : List Int} (h : encF x ++ r = encF y ++ s) : said x = said y ∧ r = s := by
  simp only [encF, List.cons_append, List.cons.injEq] at h
  obtain ⟨h1, h2, h3, h4⟩ := h
  have hl : x.zs.length = y.zs.length := by omega
  obtain ⟨h5, h6⟩ := List.append_inj h4 hl
  exact ⟨Prod.ext h1 h5, h6⟩
/-- A list's bytes, with others behind, are a list's: then these are the rest of it. -/
theorem encL_split : ∀ {ps xs : List Fd} {r : List Int}, encL ps ++ r = encL xs → ∃ qs, ps.map said ++ qs.map said = xs.map said ∧ r = encL qs ∧ xs.length = ps.length + qs.length ∧ ∀ q ∈ qs, q ∈ xs
  | [], xs, r, h => ⟨xs, rfl, by simpa [encL] using h, by simp, fun _ h => h⟩
  | p :: ps, [], r, h => by
    rw [encL_cons', List.append_assoc] at h
    exact absurd h (encF_ne _ _)
  | p :: ps, x :: xs, r, h => by
    rw [encL_cons', encL_cons', List.append_assoc] at h
    obtain ⟨h1, h2⟩ := encF_split h
    obtain ⟨qs, e1, e2, e3, e4⟩ := encL_split h2
    exact ⟨qs, by simp [h1, e1], e2, by simp; omega, fun q hq => List.mem_cons_of_mem _ (e4 q hq)⟩
theorem encL_inj {xs ys : List Fd} (h : encL xs = encL ys) : xs.map said = ys.map said := by
  obtain ⟨qs, e1, e2, _, _⟩ := encL_split (ps := xs) (xs := ys) (r := []) (by simpa using h)
  cases qs with
  | nil => simpa using e1
  | cons q qs => rw [encL_cons'] at e2; exact absurd e2.symm (encF_ne _ _)
theorem right_said {x y : Fd} (h : said x = said y) : x.right = y.right := by
  have h1 : x.tag = y.tag := congrArg Prod.fst h
  have h2 : x.zs = y.zs := congrArg Prod.snd h
  unfold Fd.right; rw [h1, h2]
theorem encF_said {x y : Fd} (h : said x = said y) : encF x = encF y := by
  have h1 : x.tag = y.tag := congrArg Prod.fst h
  have h2 : x.zs = y.zs := congrArg Prod.snd h
  unfold encF; rw [h1, h2]
theorem encL_said : ∀ {xs ys : List Fd}, xs.map said = ys.map said → encL xs = encL ys
  | [], [], _ => rfl
  | [], _ :: _, h => by simp at h
  | _ :: _, [], h => by simp at h
  | x :: xs, y :: ys, h => by
    simp only [List.map_cons, List.cons.injEq] at h
    rw [encL_cons', encL_cons', encF_said h.1, encL_said h.2]
theorem okL_said {xs ys : List Fd} (h : xs.map said = ys.map said) : okL xs = okL ys := by
  have hl : xs.length = ys.length := by simpa using congrArg List.length h
  have ha : ∀ {xs ys : List Fd}, xs.map said = ys.map said → xs.all Fd.right = ys.all Fd.right := by
    intro xs
    induction xs with
    | nil => intro ys h; cases ys with | nil => rfl | cons => simp at h
    | cons x xs ih =>
      intro ys h
      cases ys with
      | nil => simp at h
      | cons y ys =>
        simp only [List.map_cons, List.cons.injEq] at h
        rw [List.all_cons, List.all_cons, right_said h.1, ih h.2]
  unfold okL; rw [hl, ha h]

/-- 's[lo:hi]' and 's[lo:]' of bytes. -/
theorem slice_cut {n₀ : Nat} {w : World} {b off len cap : Nat} {zs : List Int} (hz : Bts n₀ w (.slice (some ⟨b, off, none⟩) len cap) zs) (lo hi : Nat) (hlo : lo ≤ hi) (hhi : hi ≤ len) :
    ∃ sa, (∀ W, (Instr.slice 23 (.slice (some ⟨b, off, none⟩) len cap) (some (.int .i64 (lo : Int))) (some (.int .i64 (hi : Int))) none).run Tryd.prog W = .ok (.slice sa (hi - lo) (cap - lo)) W) ∧
      (∀ W, hi = len → (Instr.slice 23 (.slice (some ⟨b, off, none⟩) len cap) (some (.int .i64 (lo : Int))) none none).run Tryd.prog W = .ok (.slice sa (hi - lo) (cap - lo)) W) ∧ Bts n₀ w (.slice sa (hi - lo) (cap - lo)) ((zs.take hi).drop lo) := by
  have ht' : Tryd.prog.underlying 23 = some (.slice (Tryd.prog.elem 23)) := by simp [Program.elem, Tryd.underlying23]
  have he : Tryd.prog.elem 23 = 5 := by simp [Program.elem, Tryd.underlying23]
  have hzs : ∀ W, (Go.sizeOf 5).run Tryd.prog W = .ok 1 W := by
    obtain ⟨i0, hi, hz0, hz1, hz2⟩ := info_parts Tryd.info5
    intro W; simp [sizeOf, typeInfo, hi, hz1]
  have hl := hz.len
  have hcap : len ≤ cap ∨ len = 0 := by
    obtain ⟨⟨e | ⟨ad, c, e⟩, h⟩ | ⟨b', off', c, e, _, h1, h2, _⟩, _⟩ := hz
    · simp at e
    · simp at e; omega
    · simp at e; omega
  have hbts : ∀ sa, (sa = (if cap = lo then some ⟨b, off, none⟩ else some ⟨b, off + lo, none⟩)) → Bts n₀ w (.slice sa (hi - lo) (cap - lo)) ((zs.take hi).drop lo) := by
    intro sa hsa
    refine ⟨?_, fun z hz' => hz.2 z (List.mem_of_mem_take (List.mem_of_mem_drop hz'))⟩
    have hln : ((zs.take hi).drop lo).length = hi - lo := by rw [List.length_drop, List.length_take]; omega
    by_cases h0 : hi = lo
    · have e0 : (zs.take hi).drop lo = [] := List.eq_nil_of_length_eq_zero (by omega)
      rw [e0]
      refine .inl ⟨.inr ?_, rfl⟩
      rw [hsa]
      split
      · exact ⟨_, _, by rw [show hi - lo = 0 by omega]⟩
      · exact ⟨_, _, by rw [show hi - lo = 0 by omega]⟩
    · obtain ⟨⟨e | ⟨ad, c, e⟩, h⟩ | ⟨b', off', c, e, hb, h1, h2, hc⟩, _⟩ := hz
      · simp at e
      · simp at e; omega
      · simp only [Value.slice.injEq, Option.some.injEq, Addr.mk.injEq] at e
        obtain ⟨⟨rfl, rfl, _⟩, e2, rfl⟩ := e
        rw [if_neg (by omega)] at hsa
        refine .inr ⟨b, off + lo, cap - lo, by rw [hsa, hln], hb, by rw [hln]; omega, by omega, fun j hj => ?_⟩
        rw [hln] at hj
        have := hc (lo + j) (by omega)
        rw [← Nat.add_assoc] at this
        rw [this, List.getElem?_drop, List.getElem?_take, if_pos (by omega)]
  refine ⟨if cap = lo then some ⟨b, off, none⟩ else some ⟨b, off + lo, none⟩, ?_, ?_, hbts _ rfl⟩
  · intro W
    rw [run_slice_lh W 23 _ _ _ ht' .i64 .i64 _ _ (by omega) (by omega) (by omega), he, hzs]
    simp only [Result.andThen, sliced, Int.toNat_natCast, Nat.mul_one]
    by_cases h0 : cap = lo
    · simp [h0]
    · simp [h0, Addr.add]
  · intro W hh
    subst hh
    rw [run_slice_l W 23 _ _ _ ht' .i64 _ (by omega) (by omega), he, hzs]
    simp only [Result.andThen, sliced, Int.toNat_natCast, Nat.mul_one]
    by_cases h0 : cap = lo
    · simp [h0]
    · simp [h0, Addr.add]
end Go.Proofs.YtmahpceokpajgaaDoor.C
