/- A row of ticks of one's own, beside what else a law has. -/
import Derived.Test.YtlljfgpmjpmoiaaDuep
namespace Go.Proofs.Ytlljfgpmjpmoiaa
open Go.RowKit Go.IntWalk Go.Maps Go.Shelf
set_option linter.unusedVariables false
def us (ys : List Int) : List Value := ys.map (Value.int .u64)
/-- A row v of ticks ys, with the block that it lies in. -/
def Ir (v : Value) (ys : List Int) (rl : List Res) : Prop :=
  (v = .slice none 0 0 ∧ ys = [] ∧ rl = []) ∨ ∃ k cap cur, v = .slice (some ⟨k, 0, none⟩) ys.length cap ∧ rl = [Res.b k (.cells cur 22 (0, 0))] ∧ ys.length ≤ cap ∧ cap ≤ maxLen ∧ cur.size = cap ∧ cur.toList.take ys.length = us ys
theorem Ir.nil : Ir (.slice none 0 0) [] [] := .inl ⟨rfl, rfl, rfl⟩
theorem Ir.row {W w : World} {v : Value} {ys : List Int} {rl l : List Res} (hi : Ir v ys rl) (h : St W w (rl ++ l)) : w.ownsRow 0 22 1 v ys.length (us ys) := by
  rcases hi with ⟨rfl, rfl, rfl⟩ | ⟨k, cap, cur, rfl, rfl, h1, h2, h3, h4⟩
  · exact World.ownsRow_nil _ _ _ _
  · refine ⟨by simp [us], .inr ⟨k, cap, cur, rfl, Nat.zero_le _, h.mb (by simp), h1, h2, by omega, by rw [Nat.mul_one]; exact h4⟩⟩
theorem Ir.shape {v : Value} {ys : List Int} {rl : List Res} (hi : Ir v ys rl) : ∃ a cap, v = .slice a ys.length cap := by
  rcases hi with ⟨rfl, rfl, rfl⟩ | ⟨k, cap, cur, rfl, _⟩
  · exact ⟨_, _, rfl⟩
  · exact ⟨_, _, rfl⟩
theorem Ir.at {W w : World} {a : Option Addr} {len cap : Nat} {ys : List Int} {rl l : List Res} (hi : Ir (.slice a len cap) ys rl) (h : St W w (rl ++ l)) {j : Nat} {y : Int} (hj : ys[j]? = some y) :
    ∃ k, a = some ⟨k, 0, none⟩ ∧ w.cell? ⟨k, j, none⟩ = some (.int .u64 y) ∧ ∀ i, w.frozen? ⟨k, i, none⟩ = false := by
  rcases hi with ⟨_, rfl, _⟩ | ⟨k, c, cur, e, rfl, h1, h2, h3, h4⟩
  · simp at hj
  · simp only [Value.slice.injEq] at e
    have hb := h.mb (k := k) (o := .cells cur 22 (0, 0)) (by simp)
    have hjl := at_lt hj
    have h5 : (cur.toList.take ys.length)[j]? = some (.int .u64 y) := by rw [h4]; simp [us, hj]
    rw [List.getElem?_take_of_lt hjl, Array.getElem?_toList] at h5
    exact ⟨k, e.1, by simp [World.cell?, hb, h5], fun i => by simp [World.frozen?, hb]⟩
theorem Try.info22 : (Try.prog.info? 22).map (fun i => (i.zero, i.size, i.bytes)) = some (some (.int .u64 0), 1, 8) := by kernel_rfl
/-- 'append(at, t)'. -/
theorem app_i {W w : World} {v : Value} {ys : List Int} {rl l : List Res} (h : St W w (rl ++ l)) (hi : Ir v ys rl) (hl : ys.length ≤ 1000) (y : Int) (B : Nat) (hB : w.cell? ⟨B, 0, none⟩ = some (.int .u64 y)) :
    ∃ a cap w' rl', (Builtin.append_ #[49, 49] 49 #[v, .slice (some ⟨B, 0, none⟩) 1 1]).run Try.prog w = .ok (.slice a (ys ++ [y]).length cap) w' ∧ Ir (.slice a (ys ++ [y]).length cap) (ys ++ [y]) rl' ∧ St W w' (rl' ++ l) := by
  obtain ⟨i0, hi0, hz0, hz1, hz2⟩ := info_parts Try.info22
  obtain ⟨v', w', hrun, h1, h2, _, h4⟩ := run_append_own_at (P := Try.prog) (w := w) 0 49 49 22 i0 (.int .u64 0) 1 8 Try.underlying49 hi0 hz0 hz1 hz2 rfl (by decide) v ys.length _ (hi.row h) ⟨B, 0, none⟩ 1 1 [.int .u64 y] rfl (fun j u hj => by
    rw [addr_add, Nat.zero_add]
    match j, hj with
    | 0, hj => simp at hj; subst hj; exact hB
    | j + 1, hj => simp at hj) (by simp [Value.oneCell']) (by unfold maxLen; omega) (by omega) (by omega)
  have hlen : (ys ++ [y]).length = ys.length + 1 := by simp
  rcases h1 with ⟨k1, ⟨_, k2⟩ | ⟨g, cap, cur, rfl, _, hb, hn, hm, hs, ht⟩⟩
  · omega
  · rw [Nat.mul_one] at hs ht
    have hgl : g < w'.heap.size := (Array.getElem?_eq_some_iff.1 hb).1
    have hIr : Ir (.slice (some ⟨g, 0, none⟩) (ys ++ [y]).length cap) (ys ++ [y]) [Res.b g (.cells cur 22 (0, 0))] := .inr ⟨g, cap, cur, rfl, rfl, by rw [hlen]; exact hn, hm, hs, by rw [hlen, ht]; simp [us]⟩
    refine ⟨some ⟨g, 0, none⟩, cap, w', [Res.b g (.cells cur 22 (0, 0))], by rw [hlen]; exact hrun, hIr, ?_⟩
    rcases hi with ⟨rfl, rfl, rfl⟩ | ⟨k, c, cu, rfl, rfl, _⟩
    · rcases h4 with h4 | h4
      · simp [Value.ownBlock] at h4
      · simp [Value.ownBlock] at h4
        subst h4
        exact St.new (l := l) h h2 (.b w.heap.size (.cells cur 22 (0, 0))) ⟨hb, Nat.le_refl _, hgl⟩
    · obtain ⟨S, s1, s2, s3⟩ := St.headK (l := l) h
      refine s3 w' (.b g (.cells cur 22 (0, 0))) (Kp.of h2 fun j hj => ?_) ⟨hb, ?_⟩
      · simp [Value.ownBlock] at hj
        subst hj
        exact s1.2
      · rcases h4 with h4 | h4
        · simp [Value.ownBlock] at h4
          subst h4
          exact .inl s1.2
        · simp [Value.ownBlock] at h4
          subst h4
          exact .inr ⟨Nat.le_refl _, hgl⟩
/-- 'at[j] = 0'. -/
theorem set_i {W w : World} {k cap : Nat} {ys : List Int} {rl l : List Res} (h : St W w (rl ++ l)) (hi : Ir (.slice (some ⟨k, 0, none⟩) ys.length cap) ys rl) (j : Nat) (hj : j < ys.length) :
    ∃ rl', Ir (.slice (some ⟨k, 0, none⟩) (ys.set j 0).length cap) (ys.set j 0) rl' ∧ St W (w.setCell ⟨k, j, none⟩ (.int .u64 0)) (rl' ++ l) := by
  rcases hi with ⟨e, _, _⟩ | ⟨g, c, cur, e, rfl, h1, h2, h3, h4⟩
  · cases e
  · simp only [Value.slice.injEq, Option.some.injEq, Addr.mk.injEq] at e
    obtain ⟨⟨rfl, _⟩, _, rfl⟩ := e
    have hb := h.mb (k := k) (o := .cells cur 22 (0, 0)) (by simp)
    refine ⟨[Res.b k (.cells (cur.setIfInBounds j (.int .u64 0)) 22 (0, 0))], .inr ⟨k, cap, _, rfl, rfl, by simpa using h1, h2, by simpa using h3, ?_⟩, St.put (l := l) h (grown_setCell w ⟨k, j, none⟩ _) (heap_set hb j _)⟩
    rw [List.length_set]
    apply List.ext_getElem?
    intro i
    by_cases hi : i < ys.length
    · rw [List.getElem?_take_of_lt hi]
      have h5 : (cur.toList.take ys.length)[i]? = (us ys)[i]? := by rw [h4]
      rw [List.getElem?_take_of_lt hi] at h5
      simp only [us, List.getElem?_map] at h5 ⊢
      by_cases hij : j = i
      · subst hij
        rw [List.getElem?_set_self hj, Array.getElem?_toList, Array.getElem?_setIfInBounds_self, if_pos (by omega)]
        rfl
      · rw [List.getElem?_set_ne hij, Array.getElem?_toList, Array.getElem?_setIfInBounds_ne hij, ← Array.getElem?_toList, h5]
    · rw [List.getElem?_take_eq_none (by omega), List.getElem?_eq_none (by simp [us]; omega)]
theorem St.back {W w : World} {rl l : List Res} {x : Res} (h : St W w (rl ++ x :: l)) : St W w (x :: (rl ++ l)) := h.perm List.perm_middle
theorem St.forth {W w : World} {rl l : List Res} {x : Res} (h : St W w (x :: (rl ++ l))) : St W w (rl ++ x :: l) := h.perm List.perm_middle.symm
end Go.Proofs.Ytlljfgpmjpmoiaa
