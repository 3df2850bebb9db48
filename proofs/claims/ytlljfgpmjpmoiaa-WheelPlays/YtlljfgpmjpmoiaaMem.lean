/- Wheels, rows and blocks side by side in memory; the calls of wheel on them. -/
import Derived.Test.YtlljfgpmjpmoiaaAdw
import Derived.Test.YtlljfgpmjpmoiaaNew
import Derived.Test.YtlljfgpmjpmoiaaSoo
namespace Go.Proofs.Ytlljfgpmjpmoiaa
open Go.RowKit Go.IntWalk Go.Maps Go.Shelf
set_option linter.unusedVariables false
/-- What a law has in memory: a wheel, a row of timers, a block. -/
abbrev Res : Type := (Nat × Int × List E) ⊕ ((TypeId × Value × List E) ⊕ (Nat × Obj))
abbrev Res.q (qb : Nat) (now : Int) (L : List E) : Res := Sum.inl (qb, now, L)
abbrev Res.r (t : TypeId) (v : Value) (es : List E) : Res := Sum.inr (Sum.inl (t, v, es))
abbrev Res.b (k : Nat) (o : Obj) : Res := Sum.inr (Sum.inr (k, o))
def Res.holds : Res → (Nat → Prop) → World → Prop
  | Sum.inl (qb, now, L), S, w => Wh S w qb now L
  | Sum.inr (Sum.inl (t, v, es)), S, w => Rw t w v es ∧ ∀ k, v.ownBlock = some k → S k
  | Sum.inr (Sum.inr (k, o)), S, w => w.heap[k]? = some o ∧ S k
theorem Res.kept {x : Res} {S : Nat → Prop} {w w' : World} (h : Res.holds x S w) (hb : ∀ k, S k → k < w.heap.size → w'.heap[k]? = w.heap[k]?) : Res.holds x S w' := by
  rcases x with ⟨qb, now, L⟩ | ⟨t, v, es⟩ | ⟨k, o⟩
  · exact Wh.kept h hb
  · exact ⟨h.1.kept fun k hk => hb k (h.2 k hk) (h.1.lt k hk).2, h.2⟩
  · exact ⟨(hb k h.2 (Array.getElem?_eq_some_iff.1 h.1).1).trans h.1, h.2⟩
theorem Res.mono {x : Res} {S S' : Nat → Prop} {w : World} (h : Res.holds x S w) (hs : ∀ k, S k → S' k) : Res.holds x S' w := by
  rcases x with ⟨qb, now, L⟩ | ⟨t, v, es⟩ | ⟨k, o⟩
  · exact Wh.mono h hs
  · exact ⟨h.1, fun k hk => hs k (h.2 k hk)⟩
  · exact ⟨h.1, hs k h.2⟩
/-- They lie apart from one another, and from what U is true of. -/
def Mem (w : World) (U : Nat → Prop) : List Res → Prop
  | [] => True
  | x :: l => ∃ S, Res.holds x S w ∧ (∀ k, S k → ¬ U k ∧ k < w.heap.size) ∧ Mem w (fun k => U k ∨ S k) l
theorem Mem.less {w : World} : ∀ {l : List Res} {U U' : Nat → Prop}, Mem w U l → (∀ k, k < w.heap.size → U' k → U k) → Mem w U' l
  | [], _, _, _, _ => trivial
  | x :: l, U, U', ⟨S, h1, h2, h3⟩, hu => ⟨S, h1, fun k hk => ⟨fun e => (h2 k hk).1 (hu k (h2 k hk).2 e), (h2 k hk).2⟩, Mem.less h3 fun k hk e => e.elim (fun e => .inl (hu k hk e)) .inr⟩
theorem Mem.kept {w w' : World} (hs : w.heap.size ≤ w'.heap.size) : ∀ {l : List Res} {U : Nat → Prop}, Mem w U l → (∀ k, k < w.heap.size → ¬ U k → w'.heap[k]? = w.heap[k]?) → Mem w' (fun k => U k ∨ w.heap.size ≤ k) l
  | [], _, _, _ => trivial
  | x :: l, U, ⟨S, h1, h2, h3⟩, hb => by
    refine ⟨S, Res.kept h1 fun k hk hkl => hb k hkl (h2 k hk).1, fun k hk => ⟨fun e => e.elim (h2 k hk).1 (fun e => by have := (h2 k hk).2; omega), Nat.lt_of_lt_of_le (h2 k hk).2 hs⟩, ?_⟩
    refine (Mem.kept hs h3 fun k hkl hn => hb k hkl (fun e => hn (.inl e))).less fun k _ e => ?_
    rcases e with (e | e) | e
    · exact .inl (.inl e)
    · exact .inr e
    · exact .inl (.inr e)
theorem Mem.perm {w : World} {l l' : List Res} (hp : l.Perm l') : ∀ {U : Nat → Prop}, Mem w U l → Mem w U l' := by
  induction hp with
  | nil => intro U h; exact h
  | cons x _ ih => rintro U ⟨S, h1, h2, h3⟩; exact ⟨S, h1, h2, ih h3⟩
  | swap x y l =>
    rintro U ⟨S, h1, h2, S', h1', h2', h3⟩
    refine ⟨S', h1', fun k hk => ⟨fun e => (h2' k hk).1 (.inl e), (h2' k hk).2⟩, S, h1, fun k hk => ⟨fun e => ?_, (h2 k hk).2⟩, h3.less fun k _ e => ?_⟩
    · rcases e with e | e
      · exact (h2 k hk).1 e
      · exact (h2' k e).1 (.inr hk)
    · rcases e with (e | e) | e
      · exact .inl (.inl e)
      · exact .inr e
      · exact .inl (.inr e)
  | trans _ _ ih1 ih2 => intro U h; exact ih2 (ih1 h)
/-- The head has turned. -/
theorem Mem.turn {w w' : World} {U : Nat → Prop} {S : Nat → Prop} {l : List Res} (x' : Res) (hU : ∀ k, U k → k < w.heap.size) (hS : ∀ k, S k → ¬ U k ∧ k < w.heap.size) (hl : Mem w (fun k => U k ∨ S k) l) (hK : Kp S w w') (hx : Res.holds x' (Gw S w w') w') : Mem w' U (x' :: l) := by
  refine ⟨Gw S w w', hx, fun k hk => ?_, (Mem.kept hK.size hl fun k hkl hn => hK.block k hkl fun e => hn (.inr e)).less fun k hkl e => ?_⟩
  · rcases hk with hk | hk
    · exact ⟨(hS k hk).1, Nat.lt_of_lt_of_le (hS k hk).2 hK.size⟩
    · exact ⟨fun e => by have := hU k e; omega, hk.2⟩
  · rcases e with e | e | e
    · exact .inl (.inl e)
    · exact .inl (.inr e)
    · exact .inr e.1
/-- The head has turned, and something is new. -/
theorem Mem.turn2 {w w' : World} {U : Nat → Prop} {S S1 S2 : Nat → Prop} {l : List Res} (x1 x2 : Res) (hU : ∀ k, U k → k < w.heap.size) (hS : ∀ k, S k → ¬ U k ∧ k < w.heap.size) (hl : Mem w (fun k => U k ∨ S k) l) (hK : Kp S w w') (h1 : Res.holds x1 S1 w') (h2 : Res.holds x2 S2 w')
    (g1 : ∀ k, S1 k → Gw S w w' k) (g2 : ∀ k, S2 k → Gw S w w' k) (hd : ∀ k, S1 k → ¬ S2 k) : Mem w' U (x1 :: x2 :: l) := by
  have hg : ∀ k, Gw S w w' k → ¬ U k ∧ k < w'.heap.size := by
    rintro k (hk | hk)
    · exact ⟨(hS k hk).1, Nat.lt_of_lt_of_le (hS k hk).2 hK.size⟩
    · exact ⟨fun e => by have := hU k e; omega, hk.2⟩
  refine ⟨S1, h1, fun k hk => hg k (g1 k hk), S2, h2, fun k hk => ⟨fun e => e.elim (hg k (g2 k hk)).1 (fun e => hd k e hk), (hg k (g2 k hk)).2⟩, (Mem.kept hK.size hl fun k hkl hn => hK.block k hkl fun e => hn (.inr e)).less fun k hkl e => ?_⟩
  have hgw : ∀ k, Gw S w w' k → (U k ∨ S k) ∨ w.heap.size ≤ k := by
    rintro k (e | e)
    · exact .inl (.inr e)
    · exact .inr e.1
  rcases e with (e | e) | e
  · exact .inl (.inl e)
  · exact hgw k (g1 k e)
  · exact hgw k (g2 k e)
/-- A law's memory: what it has, apart from what came in, which lies as it lay. -/
def St (W w : World) (l : List Res) : Prop := Mem w (fun k => k < W.heap.size) l ∧ Below W.heap.size W w
theorem St.start (W : World) : St W W [] := ⟨trivial, Below.refl _ _⟩
theorem St.perm {W w : World} {l l' : List Res} (h : St W w l) (hp : l.Perm l') : St W w l' := ⟨h.1.perm hp, h.2⟩
theorem St.swap {W w : World} {a b : Res} {l : List Res} (h : St W w (a :: b :: l)) : St W w (b :: a :: l) := h.perm (List.Perm.swap b a l)
theorem St.rot {W w : World} {a b c : Res} {l : List Res} (h : St W w (a :: b :: c :: l)) : St W w (c :: a :: b :: l) := h.perm (((List.Perm.swap c b l).cons a).trans (List.Perm.swap c a (b :: l)))
theorem St.rot4 {W w : World} {a b c d : Res} {l : List Res} (h : St W w (a :: b :: c :: d :: l)) : St W w (d :: a :: b :: c :: l) := h.perm ((((List.Perm.swap d c l).cons b).cons a).trans (((List.Perm.swap d b (c :: l)).cons a).trans (List.Perm.swap d a (b :: c :: l))))
theorem St.drop {W w : World} {a : Res} {l : List Res} (h : St W w (a :: l)) : St W w l := by
  obtain ⟨⟨S, h1, h2, h3⟩, hb⟩ := h
  exact ⟨h3.less fun k _ e => .inl e, hb⟩
theorem St.below_grown {W w w' : World} (hb : Below W.heap.size W w) (hg : w.grownBy w' none) : Below W.heap.size W w' :=
  hb.trans ⟨hg.os, hg.tape, hg.output, hg.size, fun k hk => hg.block k (Nat.lt_of_lt_of_le hk hb.size) (by simp)⟩
theorem St.grown {W w w' : World} {l : List Res} (h : St W w l) (hg : w.grownBy w' none) : St W w' l :=
  ⟨(Mem.kept hg.size h.1 fun k hk _ => hg.block k hk (by simp)).less fun k _ e => .inl e, St.below_grown h.2 hg⟩
theorem St.new {W w w' : World} {l : List Res} (h : St W w l) (hg : w.grownBy w' none) (x : Res) (hx : Res.holds x (fun k => w.heap.size ≤ k ∧ k < w'.heap.size) w') : St W w' (x :: l) := by
  have hs := h.2.size
  refine ⟨⟨_, hx, fun k hk => ⟨fun e => by have := hk.1; omega, hk.2⟩, ?_⟩, St.below_grown h.2 hg⟩
  exact (Mem.kept hg.size h.1 fun k hk _ => hg.block k hk (by simp)).less fun k _ e => e.elim .inl fun e => .inr e.1
theorem St.box {W w : World} {l : List Res} (h : St W w l) (o : Obj) : St W (w.alloc o) (.b w.heap.size o :: l) :=
  h.new (World.grownBy_alloc w o none) _ ⟨by simpa using heap_alloc_new w o, by simp⟩
theorem St.headK {W w : World} {x : Res} {l : List Res} (h : St W w (x :: l)) : ∃ S, Res.holds x S w ∧ (∀ k, S k → k < w.heap.size) ∧ (∀ w' x', Kp S w w' → Res.holds x' (Gw S w w') w' → St W w' (x' :: l)) := by
  obtain ⟨⟨S, h1, h2, h3⟩, hb⟩ := h
  refine ⟨S, h1, fun k hk => (h2 k hk).2, fun w' x' hK hx => ⟨Mem.turn x' (fun k hk => Nat.lt_of_lt_of_le hk hb.size) h2 h3 hK hx, hb.trans (hK.below hb.size fun k hk => by have := (h2 k hk).1; omega)⟩⟩
theorem St.headK2 {W w : World} {x : Res} {l : List Res} (h : St W w (x :: l)) : ∃ S, Res.holds x S w ∧ (∀ k, S k → k < w.heap.size) ∧ (∀ w' (x1 x2 : Res) (S1 S2 : Nat → Prop), Kp S w w' → Res.holds x1 S1 w' → Res.holds x2 S2 w' → (∀ k, S1 k → Gw S w w' k) → (∀ k, S2 k → Gw S w w' k) → (∀ k, S1 k → ¬ S2 k) → St W w' (x1 :: x2 :: l)) := by
  obtain ⟨⟨S, h1, h2, h3⟩, hb⟩ := h
  refine ⟨S, h1, fun k hk => (h2 k hk).2, fun w' x1 x2 S1 S2 hK a1 a2 a3 a4 a5 => ⟨Mem.turn2 x1 x2 (fun k hk => Nat.lt_of_lt_of_le hk hb.size) h2 h3 hK a1 a2 a3 a4 a5, hb.trans (hK.below hb.size fun k hk => by have := (h2 k hk).1; omega)⟩⟩
theorem St.r {W w : World} {t : TypeId} {v : Value} {es : List E} {l : List Res} (h : St W w (.r t v es :: l)) : Rw t w v es := by
  obtain ⟨⟨S, h1, h2, h3⟩, hb⟩ := h
  exact h1.1
theorem St.b {W w : World} {k : Nat} {o : Obj} {l : List Res} (h : St W w (.b k o :: l)) : w.heap[k]? = some o := by
  obtain ⟨⟨S, h1, h2, h3⟩, hb⟩ := h
  exact h1.1
/-- A block of one's own was written. -/
theorem St.put {W w w' : World} {k : Nat} {o o' : Obj} {l : List Res} (h : St W w (.b k o :: l)) (hg : w.grownBy w' (some k)) (ho : w'.heap[k]? = some o') : St W w' (.b k o' :: l) := by
  obtain ⟨S, h1, h2, h3⟩ := h.headK
  refine h3 w' (.b k o') (Kp.of hg fun j hj => ?_) ⟨ho, .inl h1.2⟩
  cases hj
  exact h1.2
theorem Mem.mem {w : World} : ∀ {l : List Res} {U : Nat → Prop}, Mem w U l → ∀ x ∈ l, ∃ S, Res.holds x S w ∧ ∀ k, S k → ¬ U k ∧ k < w.heap.size
  | [], _, _, x, hx => by simp at hx
  | y :: l, U, ⟨S, h1, h2, h3⟩, x, hx => by
    rcases List.mem_cons.1 hx with rfl | hx
    · exact ⟨S, h1, h2⟩
    · obtain ⟨S', a, b⟩ := Mem.mem h3 x hx
      exact ⟨S', a, fun k hk => ⟨fun e => (b k hk).1 (.inl e), (b k hk).2⟩⟩
theorem St.mb {W w : World} {l : List Res} (h : St W w l) {k : Nat} {o : Obj} (hx : Res.b k o ∈ l) : w.heap[k]? = some o := by
  obtain ⟨S, h1, _⟩ := h.1.mem _ hx
  exact h1.1
theorem St.mr {W w : World} {l : List Res} (h : St W w l) {t : TypeId} {v : Value} {es : List E} (hx : Res.r t v es ∈ l) : Rw t w v es := by
  obtain ⟨S, h1, _⟩ := h.1.mem _ hx
  exact h1.1
/-- A struct of two cells written. -/
theorem St.put2 {W w : World} {k : Nat} {a b : Value} {t : TypeId} {l : List Res} (h : St W w (.b k (.cells #[a, b] t (0, 0)) :: l)) (u v : Value) : St W ((w.setCell ⟨k, 0, none⟩ u).setCell ⟨k, 1, none⟩ v) (.b k (.cells #[u, v] t (0, 0)) :: l) :=
  h.put (set_two w k u v) (by rw [heap_set (heap_set h.b 0 u) 1 v]; rfl)
theorem drop_cons {L : List E} {k : Nat} (h : k < L.length) : ∃ f, L[k]? = some f ∧ L.drop k = f :: L.drop (k + 1) := ⟨L[k], List.getElem?_eq_getElem h, List.drop_eq_getElem_cons h⟩
/-- One behind the other. -/
theorem Srt.next {L : List E} (h : Srt L) {i j : Nat} {a b : E} (ha : L[i]? = some a) (hb : L[j]? = some b) (hij : i < j) : lt a b := by
  have h1 := List.pairwise_iff_getElem.1 h.up
  obtain ⟨hi, rfl⟩ := List.getElem?_eq_some_iff.1 ha
  obtain ⟨hj, rfl⟩ := List.getElem?_eq_some_iff.1 hb
  exact h1 i j hi hj hij
/-- What a comparison in Go answers of two that stand in order. -/
theorem lt_said {a b : E} (h : lt a b) : (a.at_ < b.at_ ∧ decide (b.at_ < a.at_) = false ∧ (b.at_ == a.at_) = false) ∨ (decide (b.at_ < a.at_) = false ∧ (b.at_ == a.at_) = true ∧ (Op.bytesLess b.n.toList a.n.toList || b.n.toList == a.n.toList) = false) := by
  rcases h with h | ⟨h1, h2⟩
  · exact .inl ⟨h, by simp; omega, by simp; omega⟩
  · refine .inr ⟨by simp; omega, by simp [h1], ?_⟩
    rw [bytesLess_eq]
    have h3 : ¬ b.n.toList < a.n.toList := fun h3 => List.lt_irrefl _ (List.lt_trans h2 h3)
    have h4 : ¬ b.n.toList = a.n.toList := fun h4 => List.lt_irrefl _ (h4 ▸ h2)
    simp [h3, h4]
theorem Mem.sub {w : World} {l l' : List Res} (hs : l'.Sublist l) : ∀ {U : Nat → Prop}, Mem w U l → Mem w U l' := by
  induction hs with
  | slnil => intro U h; exact h
  | cons x _ ih => rintro U ⟨S, h1, h2, h3⟩; exact (ih h3).less fun k _ e => .inl e
  | cons_cons x _ ih => rintro U ⟨S, h1, h2, h3⟩; exact ⟨S, h1, h2, ih h3⟩
theorem St.sub {W w : World} {l l' : List Res} (h : St W w l) (hs : l'.Sublist l) : St W w l' := ⟨h.1.sub hs, h.2⟩
/-- What a wheel tells. -/
theorem St.mq {W w : World} {l : List Res} (h : St W w l) {wb : Nat} {now : Int} {L : List E} (hx : Res.q wb now L ∈ l) : Srt L ∧ L.length ≤ 100000 ∧ (∀ e ∈ L, now < e.at_) ∧ (∀ e ∈ L, e.ok) ∧ 0 ≤ now ∧ now < 18446744073709551616 := by
  obtain ⟨S, h1, _⟩ := h.1.mem _ hx
  have h1' : Wh S w wb now L := h1
  exact ⟨h1'.srt, h1'.len, h1'.abv, h1'.ok, h1'.nw⟩
theorem len_m {W w : World} {wb : Nat} {now : Int} {L : List E} {l : List Res} (h : St W w l) (hx : Res.q wb now L ∈ l) : Calls Try.prog 21 #[.pointer (some ⟨wb, 0, none⟩)] w fun r w' => r = .returned (.int .i64 L.length) ∧ w' = w := by
  obtain ⟨S, h1, _⟩ := h.1.mem _ hx
  exact len_any w h1
theorem clock_m {W w : World} {wb : Nat} {now : Int} {L : List E} {l : List Res} (h : St W w l) (hx : Res.q wb now L ∈ l) : Calls Try.prog 20 #[.pointer (some ⟨wb, 0, none⟩)] w fun r w' => r = .returned (.int .u64 now) ∧ w' = w := by
  obtain ⟨S, h1, _⟩ := h.1.mem _ hx
  exact clock_any w h1
theorem soon_m {W w : World} {wb : Nat} {now : Int} {L : List E} {l : List Res} (h : St W w l) (hx : Res.q wb now L ∈ l) {s : Int} {b : Bool} (hs : Hid (soonT L = s)) (hb : Hid (soonB L = b)) : Calls Try.prog 18 #[.pointer (some ⟨wb, 0, none⟩)] w fun r w' => r = .returned (.tuple #[.int .u64 s, .bool b]) ∧ w.grownBy w' none := by
  obtain ⟨S, h1, _⟩ := h.1.mem _ hx
  have := soon_any w h1
  rw [hs.out, hb.out] at this
  exact this
/-- A row of one's own that is new. -/
theorem St.row {W w w' : World} {l : List Res} (h : St W w l) (hg : w.grownBy w' none) {t : TypeId} {v : Value} {es : List E} (hr : Rw t w' v es) (hn : ∀ k, v.ownBlock = some k → w.heap.size ≤ k) : St W w' (.r t v es :: l) :=
  h.new hg _ ⟨hr, fun k hk => ⟨hn k hk, (hr.lt k hk).2⟩⟩
theorem slot_m {W w : World} {wb : Nat} {now : Int} {L : List E} {l : List Res} (h : St W w l) (hx : Res.q wb now L ∈ l) {k q : Nat} (hk : k < 4) (hq : q < 16) {M : List E} (hM : Hid (atP now L (16 * k + q) = M)) :
    Calls Try.prog 22 #[.pointer (some ⟨wb, 0, none⟩), .int .i64 k, .int .i64 q] w fun r w' => ∃ a cap, r = .returned (.slice a M.length cap) ∧ St W w' (.r 52 (.slice a M.length cap) M :: l) ∧ w.grownBy w' none := by
  obtain ⟨S, h1, _⟩ := h.1.mem _ hx
  refine (slot_any w h1 hk hq hM).mono ?_
  rintro r w1 ⟨a, cap, rfl, hr, hn, hg⟩
  exact ⟨a, cap, rfl, h.row hg hr hn, hg⟩
theorem far_m {W w : World} {wb : Nat} {now : Int} {L : List E} {l : List Res} (h : St W w l) (hx : Res.q wb now L ∈ l) {M : List E} (hM : Hid (atP now L 64 = M)) :
    Calls Try.prog 25 #[.pointer (some ⟨wb, 0, none⟩)] w fun r w' => ∃ a cap, r = .returned (.slice a M.length cap) ∧ St W w' (.r 52 (.slice a M.length cap) M :: l) ∧ w.grownBy w' none := by
  obtain ⟨S, h1, _⟩ := h.1.mem _ hx
  refine (far_any w h1 hM).mono ?_
  rintro r w1 ⟨a, cap, rfl, hr, hn, hg⟩
  exact ⟨a, cap, rfl, h.row hg hr hn, hg⟩
theorem new_s {W w : World} {l : List Res} (h : St W w l) (now : Int) (hn : 0 ≤ now ∧ now < 18446744073709551616) : Calls Try.prog 9 #[.int .u64 now] w fun r w' => ∃ wb, r = .returned (.pointer (some ⟨wb, 0, none⟩)) ∧ St W w' (.q wb now [] :: l) := by
  refine (new_any w now hn).mono ?_
  rintro r w1 ⟨wb, rfl, hq, hg⟩
  exact ⟨wb, rfl, h.new hg _ hq⟩
/-- What Put leaves. -/
def putA (now : Int) (e : E) (L : List E) : List E := if now < e.at_ then putE e L else L
theorem put_e {W w : World} {wb : Nat} {now : Int} {L T : List E} {b : Bool} {l : List Res} (h : St W w (.q wb now L :: l)) (n : ByteArray) (a : Int) (hn : n.size ≤ maxLen) (ha : 0 ≤ a ∧ a < 18446744073709551616) (hl : L.length < 100000) (hb : Hid (decide (now < a) = b)) (hT : Hid (putA now ⟨n, a⟩ L = T)) :
    Calls Try.prog 11 #[.pointer (some ⟨wb, 0, none⟩), .string n, .int .u64 a] w fun r w' => r = .returned (.bool b) ∧ St W w' (.q wb now T :: l) := by
  obtain ⟨S, h1, _, h3⟩ := h.headK
  have h1' : Wh S w wb now L := h1
  by_cases hlt : now < a
  · have e1 : b = true := by rw [← hb.out]; simpa using hlt
    have e2 : T = putE ⟨n, a⟩ L := by rw [← hT.out]; simp [putA, hlt]
    subst e1 e2
    refine (put_some w h1' ⟨n, a⟩ ⟨hn, ha⟩ hlt hl).mono ?_
    rintro r w1 ⟨rfl, hq, hK⟩
    exact ⟨rfl, h3 w1 _ hK (Wh.mono hq fun k hk => .inl hk)⟩
  · have e1 : b = false := by rw [← hb.out]; simpa using hlt
    have e2 : T = L := by rw [← hT.out]; simp [putA, hlt]
    subst e1 e2
    refine (put_none w h1' n a (by omega)).mono ?_
    rintro r w1 ⟨rfl, rfl⟩
    exact ⟨rfl, h⟩
theorem drop_e {W w : World} {wb : Nat} {now : Int} {L T : List E} {b : Bool} {l : List Res} (h : St W w (.q wb now L :: l)) (n : ByteArray) (hn : n.size ≤ maxLen) (hb : Hid (hasN n L = b)) (hT : Hid (delN n L = T)) :
    Calls Try.prog 13 #[.pointer (some ⟨wb, 0, none⟩), .string n] w fun r w' => r = .returned (.bool b) ∧ St W w' (.q wb now T :: l) := by
  obtain ⟨rfl⟩ := hb
  obtain ⟨rfl⟩ := hT
  obtain ⟨S, h1, _, h3⟩ := h.headK
  refine (drop_any w h1 n hn).mono ?_
  rintro r w1 ⟨rfl, hq, hK⟩
  exact ⟨rfl, h3 w1 _ hK (Wh.mono hq fun k hk => .inl hk)⟩
theorem due_none {now t : Int} {L : List E} (hab : ∀ e ∈ L, now < e.at_) (h : t ≤ now) : due t L = [] ∧ rst t L = L := by
  refine ⟨List.filter_eq_nil_iff.2 fun x hx => ?_, List.filter_eq_self.2 fun x hx => ?_⟩
  · have := hab x hx
    simp
    omega
  · have := hab x hx
    simp
    omega
theorem adv_e {W w : World} {wb : Nat} {now now' : Int} {L A T : List E} {l : List Res} (h : St W w (.q wb now L :: l)) (t : Int) (ht : 0 ≤ t ∧ t < 18446744073709551616) (hA : Hid (due t L = A)) (hT : Hid (rst t L = T)) (hn : Hid ((if now < t then t else now) = now')) :
    Calls Try.prog 16 #[.pointer (some ⟨wb, 0, none⟩), .int .u64 t] w fun r w' => ∃ a cap, r = .returned (.slice a A.length cap) ∧ St W w' (.q wb now' T :: .r 52 (.slice a A.length cap) A :: l) := by
  obtain ⟨S, h1, h2, h3⟩ := h.headK2
  have h1' : Wh S w wb now L := h1
  by_cases hlt : now < t
  · have e3 : now' = t := by rw [← hn.out]; simp [hlt]
    obtain ⟨rfl⟩ := hA
    obtain ⟨rfl⟩ := hT
    subst e3
    refine (adv_some w h1' h2 now' ht hlt).mono ?_
    rintro r w1 ⟨a, cap, rfl, hr, hnw, hq, hK⟩
    exact ⟨a, cap, rfl, h3 w1 (.q wb now' (rst now' L)) (.r 52 (.slice a (due now' L).length cap) (due now' L)) S (fun k => (Value.slice a (due now' L).length cap).ownBlock = some k) hK hq ⟨hr, fun k hk => hk⟩ (fun k hk => .inl hk) (fun k hk => .inr ⟨hnw k hk, (hr.lt k hk).2⟩) (fun k hk hk2 => by have a1 := h2 k hk; have a2 := hnw k hk2; omega)⟩
  · obtain ⟨d1, d2⟩ := due_none h1'.abv (by omega : t ≤ now)
    have e1 : A = [] := by rw [← hA.out, d1]
    have e2 : T = L := by rw [← hT.out, d2]
    have e3 : now' = now := by rw [← hn.out]; simp [hlt]
    subst e1 e2 e3
    refine (adv_none w h1' t (by omega)).mono ?_
    rintro r w1 ⟨rfl, rfl⟩
    refine ⟨none, 0, rfl, ?_⟩
    have := h.row (t := 52) (grown_refl _) (v := .slice none 0 0) (es := []) (World.ownsRow_nil _ _ _ _) (by simp [Value.ownBlock])
    exact this.swap
end Go.Proofs.Ytlljfgpmjpmoiaa
