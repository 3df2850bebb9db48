/- More on a law's memory: reading whatever it has. -/
import Derived.Test.YtipcoghhnbgalaaArg
namespace Go.Proofs.Ytipcoghhnbgalaa
open Go.RowKit Go.IntWalk Go.Maps
set_option linter.unusedVariables false
theorem Mem.mem {w : World} : ∀ {l : List Res} {U : Nat → Prop}, Mem w U l → ∀ x ∈ l, ∃ S, Res.holds x S w ∧ ∀ k, S k → ¬ U k ∧ k < w.heap.size
  | [], _, _, x, hx => by simp at hx
  | y :: l, U, ⟨S, h1, h2, h3⟩, x, hx => by
    rcases List.mem_cons.1 hx with rfl | hx
    · exact ⟨S, h1, h2⟩
    · obtain ⟨S', a, b⟩ := Mem.mem h3 x hx
      exact ⟨S', a, fun k hk => ⟨fun e => (b k hk).1 (.inl e), (b k hk).2⟩⟩
theorem St.mb {W w : World} {l : List Res} (h : St W w l) {k : Nat} {o : Obj} (hx : Res.b k o ∈ l) : w.heap[k]? = some o := by
  obtain ⟨S, h1, _⟩ := h.1.mem _ hx
  exact h1.1
theorem St.mr {W w : World} {l : List Res} (h : St W w l) {t : TypeId} {v : Value} {es : List E} (hx : Res.r t v es ∈ l) : Rw t w v es := by
  obtain ⟨S, h1, _⟩ := h.1.mem _ hx
  exact h1.1
theorem St.mq {W w : World} {l : List Res} (h : St W w l) {qb : Nat} {L : List E} (hx : Res.q qb L ∈ l) : Srt L ∧ L.length ≤ 100000 ∧ qlen qb w = L.length := by
  obtain ⟨S, h1, _⟩ := h.1.mem _ hx
  have h1' : Qu S w qb L := h1
  exact ⟨h1'.srt, h1'.lenb, h1'.qlen⟩
theorem len_m {W w : World} {qb : Nat} {L : List E} {l : List Res} (h : St W w l) (hx : Res.q qb L ∈ l) : Calls Try.prog 22 #[.pointer (some ⟨qb, 0, none⟩)] w fun r w' => r = .returned (.int .i64 L.length) ∧ w' = w := by
  obtain ⟨S, h1, _⟩ := h.1.mem _ hx
  exact len_any w h1
theorem at_m {W w : World} {qb : Nat} {L : List E} {l : List Res} (h : St W w l) (hx : Res.q qb L ∈ l) {n : ByteArray} (hn : n.size ≤ maxLen) :
    Calls Try.prog 23 #[.pointer (some ⟨qb, 0, none⟩), .string n] w fun r w' => r = .returned (.tuple #[.int .u64 (atN n L), .bool (hasN n L)]) ∧ w' = w := by
  obtain ⟨S, h1, _⟩ := h.1.mem _ hx
  have h1' : Qu S w qb L := h1
  rw [getN_has]
  unfold atN
  cases e : getN n L with
  | none => exact at_none w h1' hn (getN_none e)
  | some x => exact at_some w h1' hn e
theorem front_m {W w : World} {qb : Nat} {L : List E} {l : List Res} (h : St W w l) (hx : Res.q qb L ∈ l) :
    Calls Try.prog 24 #[.pointer (some ⟨qb, 0, none⟩)] w fun r w' => r = .returned (.tuple #[.agg #[.string (fr L).1.n, .int .u64 (fr L).1.at_], .bool (fr L).2]) ∧ w.grownBy w' none := by
  obtain ⟨S, h1, _⟩ := h.1.mem _ hx
  exact front_q w h1
theorem atN_mem {L : List E} (h : Srt L) {f : E} (hf : f ∈ L) : atN f.n L = f.at_ ∧ hasN f.n L = true := by
  unfold atN
  rw [getN_has, h.get hf]
  exact ⟨rfl, rfl⟩
/-- A struct of two cells written. -/
theorem St.put2 {W w : World} {k : Nat} {a b : Value} {t : TypeId} {l : List Res} (h : St W w (.b k (.cells #[a, b] t (0, 0)) :: l)) (u v : Value) : St W ((w.setCell ⟨k, 0, none⟩ u).setCell ⟨k, 1, none⟩ v) (.b k (.cells #[u, v] t (0, 0)) :: l) :=
  h.put (set_two w k u v) (by rw [heap_set (heap_set h.b 0 u) 1 v]; rfl)
theorem bld_ok {n₀ : Nat} {W : World} {v : Value} {xs : List Ac} (h : Acs n₀ W v xs) (m : Nat) : ∀ e ∈ bld (xs.take m), e.n.size ≤ 40 ∧ 0 ≤ e.at_ ∧ e.at_ < 18446744073709551616 := by
  intro e he
  obtain ⟨x, hx, rfl, hs⟩ := bld_from _ e he
  have hx' := List.mem_of_mem_take hx
  obtain ⟨j, hj⟩ := List.mem_iff_getElem?.1 hx'
  refine ⟨hs, ?_⟩
  obtain ⟨_, rfl⟩ | ⟨b, off, c, e, hb, hl, hm, hc⟩ := h
  · simp at hj
  · exact (hc j x hj).1.2.2
theorem drop_cons {L : List E} {k : Nat} (h : k < L.length) : ∃ f, L[k]? = some f ∧ L.drop k = f :: L.drop (k + 1) := ⟨L[k], List.getElem?_eq_getElem h, List.drop_eq_getElem_cons h⟩
/-- One behind the other. -/
theorem Srt.next {L : List E} (h : Srt L) {i j : Nat} {a b : E} (ha : L[i]? = some a) (hb : L[j]? = some b) (hij : i < j) : lt a b := by
  have h1 := List.pairwise_iff_getElem.1 h.up
  obtain ⟨hi, rfl⟩ := List.getElem?_eq_some_iff.1 ha
  obtain ⟨hj, rfl⟩ := List.getElem?_eq_some_iff.1 hb
  exact h1 i j hi hj hij
/-- What a comparison in Go answers of two that stand in order. -/
theorem lt_said {a b : E} (h : lt a b) : (a.at_ < b.at_ ∧ decide (b.at_ < a.at_) = false ∧ (b.at_ == a.at_) = false) ∨ (decide (b.at_ < a.at_) = false ∧ (b.at_ == a.at_) = true ∧ (Op.bytesLess b.n.toList a.n.toList || b.n.toList == a.n.toList) = false) := by
  rcases h with h | ⟨h1, h2⟩
  · exact .inl ⟨h, by simp; omega, by simp; omega⟩
  · refine .inr ⟨by simp; omega, by simp [h1], ?_⟩
    rw [bytesLess_eq]
    have h3 : ¬ b.n.toList < a.n.toList := fun h3 => List.lt_irrefl _ (List.lt_trans h2 h3)
    have h4 : ¬ b.n.toList = a.n.toList := fun h4 => List.lt_irrefl _ (h4 ▸ h2)
    simp [h3, h4]
theorem due_e {W w : World} {qb : Nat} {L : List E} {l : List Res} (h : St W w (.q qb L :: l)) (now : Int) {A D : List E} (hA : Hid (tkN now L = A)) (hD : Hid (drN now L = D)) :
    Calls Try.prog 17 #[.pointer (some ⟨qb, 0, none⟩), .int .u64 now] w fun r w' => ∃ a cap, r = .returned (.slice a A.length cap) ∧ St W w' (.q qb D :: .r 36 (.slice a A.length cap) A :: l) := by
  obtain ⟨rfl⟩ := hA
  obtain ⟨rfl⟩ := hD
  exact due_s h now
theorem pop_e {W w : World} {qb : Nat} {L T : List E} {f : E} {b : Bool} {l : List Res} (h : St W w (.q qb L :: l)) (hf : Hid (fr L = (f, b))) (hT : Hid (L.tail = T)) :
    Calls Try.prog 15 #[.pointer (some ⟨qb, 0, none⟩)] w fun r w' => r = .returned (.tuple #[.agg #[.string f.n, .int .u64 f.at_], .bool b]) ∧ St W w' (.q qb T :: l) := by
  have := pop_s h
  rw [hf.out, hT.out] at this
  exact this
theorem front_e {W w : World} {qb : Nat} {L : List E} {f : E} {b : Bool} {l : List Res} (h : St W w l) (hx : Res.q qb L ∈ l) (hf : Hid (fr L = (f, b))) :
    Calls Try.prog 24 #[.pointer (some ⟨qb, 0, none⟩)] w fun r w' => r = .returned (.tuple #[.agg #[.string f.n, .int .u64 f.at_], .bool b]) ∧ w.grownBy w' none := by
  have := front_m h hx
  rw [hf.out] at this
  exact this
theorem put_e {W w : World} {qb : Nat} {L T : List E} {b : Bool} {l : List Res} (h : St W w (.q qb L :: l)) (n : ByteArray) (a : Int) (hn : n.size ≤ maxLen) (ha : 0 ≤ a ∧ a < 18446744073709551616) (hl : L.length < 100000) (hb : Hid (hasN n L = b)) (hT : Hid (putE ⟨n, a⟩ L = T)) :
    Calls Try.prog 11 #[.pointer (some ⟨qb, 0, none⟩), .string n, .int .u64 a] w fun r w' => r = .returned (.bool b) ∧ St W w' (.q qb T :: l) := by
  obtain ⟨rfl⟩ := hb
  obtain ⟨rfl⟩ := hT
  exact put_s h n a hn ha hl
theorem drop_e {W w : World} {qb : Nat} {L T : List E} {b : Bool} {l : List Res} (h : St W w (.q qb L :: l)) (n : ByteArray) (hn : n.size ≤ maxLen) (hb : Hid (hasN n L = b)) (hT : Hid (delN n L = T)) :
    Calls Try.prog 13 #[.pointer (some ⟨qb, 0, none⟩), .string n] w fun r w' => r = .returned (.bool b) ∧ St W w' (.q qb T :: l) := by
  obtain ⟨rfl⟩ := hb
  obtain ⟨rfl⟩ := hT
  exact drop_s h n hn
theorem at_e {W w : World} {qb : Nat} {L : List E} {t : Int} {b : Bool} {l : List Res} (h : St W w l) (hx : Res.q qb L ∈ l) {n : ByteArray} (hn : n.size ≤ maxLen) (ht : Hid (atN n L = t)) (hb : Hid (hasN n L = b)) :
    Calls Try.prog 23 #[.pointer (some ⟨qb, 0, none⟩), .string n] w fun r w' => r = .returned (.tuple #[.int .u64 t, .bool b]) ∧ w' = w := by
  obtain ⟨rfl⟩ := hb
  obtain ⟨rfl⟩ := ht
  exact at_m h hx hn
end Go.Proofs.Ytipcoghhnbgalaa
