/- Queues, rows and blocks side by side in memory; the calls of queue on them. -/
import Derived.Test.YtipcoghhnbgalaaDuew
namespace Go.Proofs.Ytipcoghhnbgalaa
open Go.RowKit Go.IntWalk Go.Maps
set_option linter.unusedVariables false
/-- What a law has in memory: a queue, a row of entries, a block. -/
abbrev Res : Type := (Nat × List E) ⊕ ((TypeId × Value × List E) ⊕ (Nat × Obj))
abbrev Res.q (qb : Nat) (L : List E) : Res := Sum.inl (qb, L)
abbrev Res.r (t : TypeId) (v : Value) (es : List E) : Res := Sum.inr (Sum.inl (t, v, es))
abbrev Res.b (k : Nat) (o : Obj) : Res := Sum.inr (Sum.inr (k, o))
def Res.holds : Res → (Nat → Prop) → World → Prop
  | Sum.inl (qb, L), S, w => Qu S w qb L
  | Sum.inr (Sum.inl (t, v, es)), S, w => Rw t w v es ∧ ∀ k, v.ownBlock = some k → S k
  | Sum.inr (Sum.inr (k, o)), S, w => w.heap[k]? = some o ∧ S k
theorem Res.kept {x : Res} {S : Nat → Prop} {w w' : World} (h : Res.holds x S w) (hb : ∀ k, S k → k < w.heap.size → w'.heap[k]? = w.heap[k]?) : Res.holds x S w' := by
  rcases x with ⟨qb, L⟩ | ⟨t, v, es⟩ | ⟨k, o⟩
  · exact Qu.kept h hb
  · exact ⟨h.1.kept fun k hk => hb k (h.2 k hk) (h.1.lt k hk).2, h.2⟩
  · exact ⟨(hb k h.2 (Array.getElem?_eq_some_iff.1 h.1).1).trans h.1, h.2⟩
theorem Res.mono {x : Res} {S S' : Nat → Prop} {w : World} (h : Res.holds x S w) (hs : ∀ k, S k → S' k) : Res.holds x S' w := by
  rcases x with ⟨qb, L⟩ | ⟨t, v, es⟩ | ⟨k, o⟩
  · exact Qu.mono h hs
  · exact ⟨h.1, fun k hk => hs k (h.2 k hk)⟩
  · exact ⟨h.1, hs k h.2⟩
/-- They lie apart from one another, and from what U is true of. -/
def Mem (w : World) (U : Nat → Prop) : List Res → Prop
  | [] => True
  | x :: l => ∃ S, Res.holds x S w ∧ (∀ k, S k → ¬ U k ∧ k < w.heap.size) ∧ Mem w (fun k => U k ∨ S k) l
theorem Mem.less {w : World} : ∀ {l : List Res} {U U' : Nat → Prop}, Mem w U l → (∀ k, k < w.heap.size → U' k → U k) → Mem w U' l
  | [], _, _, _, _ => trivial
  | x :: l, U, U', ⟨S, h1, h2, h3⟩, hu => ⟨S, h1, fun k hk => ⟨fun e => (h2 k hk).1 (hu k (h2 k hk).2 e), (h2 k hk).2⟩, Mem.less h3 fun k hk e => e.elim (fun e => .inl (hu k hk e)) .inr⟩
theorem Mem.kept {w w' : World} (hs : w.heap.size ≤ w'.heap.size) : ∀ {l : List Res} {U : Nat → Prop}, Mem w U l → (∀ k, k < w.heap.size → ¬ U k → w'.heap[k]? = w.heap[k]?) → Mem w' (fun k => U k ∨ w.heap.size ≤ k) l
  | [], _, _, _ => trivial
  | x :: l, U, ⟨S, h1, h2, h3⟩, hb => by
    refine ⟨S, Res.kept h1 fun k hk hkl => hb k hkl (h2 k hk).1, fun k hk => ⟨fun e => e.elim (h2 k hk).1 (fun e => by have := (h2 k hk).2; omega), Nat.lt_of_lt_of_le (h2 k hk).2 hs⟩, ?_⟩
    refine (Mem.kept hs h3 fun k hkl hn => hb k hkl (fun e => hn (.inl e))).less fun k _ e => ?_
    rcases e with (e | e) | e
    · exact .inl (.inl e)
    · exact .inr e
    · exact .inl (.inr e)
theorem Mem.perm {w : World} {l l' : List Res} (hp : l.Perm l') : ∀ {U : Nat → Prop}, Mem w U l → Mem w U l' := by
  induction hp with
  | nil => intro U h; exact h
  | cons x _ ih => rintro U ⟨S, h1, h2, h3⟩; exact ⟨S, h1, h2, ih h3⟩
  | swap x y l =>
    rintro U ⟨S, h1, h2, S', h1', h2', h3⟩
    refine ⟨S', h1', fun k hk => ⟨fun e => (h2' k hk).1 (.inl e), (h2' k hk).2⟩, S, h1, fun k hk => ⟨fun e => ?_, (h2 k hk).2⟩, h3.less fun k _ e => ?_⟩
    · rcases e with e | e
      · exact (h2 k hk).1 e
      · exact (h2' k e).1 (.inr hk)
    · rcases e with (e | e) | e
      · exact .inl (.inl e)
      · exact .inr e
      · exact .inl (.inr e)
  | trans _ _ ih1 ih2 => intro U h; exact ih2 (ih1 h)
/-- The head has turned. -/
theorem Mem.turn {w w' : World} {U : Nat → Prop} {S : Nat → Prop} {l : List Res} (x' : Res) (hU : ∀ k, U k → k < w.heap.size) (hS : ∀ k, S k → ¬ U k ∧ k < w.heap.size) (hl : Mem w (fun k => U k ∨ S k) l) (hK : Kp S w w') (hx : Res.holds x' (Gw S w w') w') : Mem w' U (x' :: l) := by
  refine ⟨Gw S w w', hx, fun k hk => ?_, (Mem.kept hK.size hl fun k hkl hn => hK.block k hkl fun e => hn (.inr e)).less fun k hkl e => ?_⟩
  · rcases hk with hk | hk
    · exact ⟨(hS k hk).1, Nat.lt_of_lt_of_le (hS k hk).2 hK.size⟩
    · exact ⟨fun e => by have := hU k e; omega, hk.2⟩
  · rcases e with e | e | e
    · exact .inl (.inl e)
    · exact .inl (.inr e)
    · exact .inr e.1
/-- The head has turned, and something is new. -/
theorem Mem.turn2 {w w' : World} {U : Nat → Prop} {S S1 S2 : Nat → Prop} {l : List Res} (x1 x2 : Res) (hU : ∀ k, U k → k < w.heap.size) (hS : ∀ k, S k → ¬ U k ∧ k < w.heap.size) (hl : Mem w (fun k => U k ∨ S k) l) (hK : Kp S w w') (h1 : Res.holds x1 S1 w') (h2 : Res.holds x2 S2 w')
    (g1 : ∀ k, S1 k → Gw S w w' k) (g2 : ∀ k, S2 k → Gw S w w' k) (hd : ∀ k, S1 k → ¬ S2 k) : Mem w' U (x1 :: x2 :: l) := by
  have hg : ∀ k, Gw S w w' k → ¬ U k ∧ k < w'.heap.size := by
    rintro k (hk | hk)
    · exact ⟨(hS k hk).1, Nat.lt_of_lt_of_le (hS k hk).2 hK.size⟩
    · exact ⟨fun e => by have := hU k e; omega, hk.2⟩
  refine ⟨S1, h1, fun k hk => hg k (g1 k hk), S2, h2, fun k hk => ⟨fun e => e.elim (hg k (g2 k hk)).1 (fun e => hd k e hk), (hg k (g2 k hk)).2⟩, (Mem.kept hK.size hl fun k hkl hn => hK.block k hkl fun e => hn (.inr e)).less fun k hkl e => ?_⟩
  have hgw : ∀ k, Gw S w w' k → (U k ∨ S k) ∨ w.heap.size ≤ k := by
    rintro k (e | e)
    · exact .inl (.inr e)
    · exact .inr e.1
  rcases e with (e | e) | e
  · exact .inl (.inl e)
  · exact hgw k (g1 k e)
  · exact hgw k (g2 k e)
/-- A law's memory: what it has, apart from what came in, which lies as it lay. -/
def St (W w : World) (l : List Res) : Prop := Mem w (fun k => k < W.heap.size) l ∧ Below W.heap.size W w
theorem St.start (W : World) : St W W [] := ⟨trivial, Below.refl _ _⟩
theorem St.perm {W w : World} {l l' : List Res} (h : St W w l) (hp : l.Perm l') : St W w l' := ⟨h.1.perm hp, h.2⟩
theorem St.swap {W w : World} {a b : Res} {l : List Res} (h : St W w (a :: b :: l)) : St W w (b :: a :: l) := h.perm (List.Perm.swap b a l)
theorem St.rot {W w : World} {a b c : Res} {l : List Res} (h : St W w (a :: b :: c :: l)) : St W w (c :: a :: b :: l) := h.perm (((List.Perm.swap c b l).cons a).trans (List.Perm.swap c a (b :: l)))
theorem St.rot4 {W w : World} {a b c d : Res} {l : List Res} (h : St W w (a :: b :: c :: d :: l)) : St W w (d :: a :: b :: c :: l) := h.perm ((((List.Perm.swap d c l).cons b).cons a).trans (((List.Perm.swap d b (c :: l)).cons a).trans (List.Perm.swap d a (b :: c :: l))))
theorem St.drop {W w : World} {a : Res} {l : List Res} (h : St W w (a :: l)) : St W w l := by
  obtain ⟨⟨S, h1, h2, h3⟩, hb⟩ := h
  exact ⟨h3.less fun k _ e => .inl e, hb⟩
theorem St.below_grown {W w w' : World} (hb : Below W.heap.size W w) (hg : w.grownBy w' none) : Below W.heap.size W w' :=
  hb.trans ⟨hg.os, hg.tape, hg.output, hg.size, fun k hk => hg.block k (Nat.lt_of_lt_of_le hk hb.size) (by simp)⟩
theorem St.grown {W w w' : World} {l : List Res} (h : St W w l) (hg : w.grownBy w' none) : St W w' l :=
  ⟨(Mem.kept hg.size h.1 fun k hk _ => hg.block k hk (by simp)).less fun k _ e => .inl e, St.below_grown h.2 hg⟩
theorem St.new {W w w' : World} {l : List Res} (h : St W w l) (hg : w.grownBy w' none) (x : Res) (hx : Res.holds x (fun k => w.heap.size ≤ k ∧ k < w'.heap.size) w') : St W w' (x :: l) := by
  have hs := h.2.size
  refine ⟨⟨_, hx, fun k hk => ⟨fun e => by have := hk.1; omega, hk.2⟩, ?_⟩, St.below_grown h.2 hg⟩
  exact (Mem.kept hg.size h.1 fun k hk _ => hg.block k hk (by simp)).less fun k _ e => e.elim .inl fun e => .inr e.1
theorem St.box {W w : World} {l : List Res} (h : St W w l) (o : Obj) : St W (w.alloc o) (.b w.heap.size o :: l) :=
  h.new (World.grownBy_alloc w o none) _ ⟨by simpa using heap_alloc_new w o, by simp⟩
theorem St.headK {W w : World} {x : Res} {l : List Res} (h : St W w (x :: l)) : ∃ S, Res.holds x S w ∧ (∀ k, S k → k < w.heap.size) ∧ (∀ w' x', Kp S w w' → Res.holds x' (Gw S w w') w' → St W w' (x' :: l)) := by
  obtain ⟨⟨S, h1, h2, h3⟩, hb⟩ := h
  refine ⟨S, h1, fun k hk => (h2 k hk).2, fun w' x' hK hx => ⟨Mem.turn x' (fun k hk => Nat.lt_of_lt_of_le hk hb.size) h2 h3 hK hx, hb.trans (hK.below hb.size fun k hk => by have := (h2 k hk).1; omega)⟩⟩
theorem St.headK2 {W w : World} {x : Res} {l : List Res} (h : St W w (x :: l)) : ∃ S, Res.holds x S w ∧ (∀ k, S k → k < w.heap.size) ∧ (∀ w' (x1 x2 : Res) (S1 S2 : Nat → Prop), Kp S w w' → Res.holds x1 S1 w' → Res.holds x2 S2 w' → (∀ k, S1 k → Gw S w w' k) → (∀ k, S2 k → Gw S w w' k) → (∀ k, S1 k → ¬ S2 k) → St W w' (x1 :: x2 :: l)) := by
  obtain ⟨⟨S, h1, h2, h3⟩, hb⟩ := h
  refine ⟨S, h1, fun k hk => (h2 k hk).2, fun w' x1 x2 S1 S2 hK a1 a2 a3 a4 a5 => ⟨Mem.turn2 x1 x2 (fun k hk => Nat.lt_of_lt_of_le hk hb.size) h2 h3 hK a1 a2 a3 a4 a5, hb.trans (hK.below hb.size fun k hk => by have := (h2 k hk).1; omega)⟩⟩
/-- What the head tells. -/
theorem St.q {W w : World} {qb : Nat} {L : List E} {l : List Res} (h : St W w (.q qb L :: l)) : Srt L ∧ L.length ≤ 100000 ∧ qlen qb w = L.length := by
  obtain ⟨⟨S, h1, h2, h3⟩, hb⟩ := h
  have h1' : Qu S w qb L := h1
  exact ⟨h1'.srt, h1'.lenb, h1'.qlen⟩
theorem St.r {W w : World} {t : TypeId} {v : Value} {es : List E} {l : List Res} (h : St W w (.r t v es :: l)) : Rw t w v es := by
  obtain ⟨⟨S, h1, h2, h3⟩, hb⟩ := h
  exact h1.1
theorem St.b {W w : World} {k : Nat} {o : Obj} {l : List Res} (h : St W w (.b k o :: l)) : w.heap[k]? = some o := by
  obtain ⟨⟨S, h1, h2, h3⟩, hb⟩ := h
  exact h1.1
/-- A block of one's own was written. -/
theorem St.put {W w w' : World} {k : Nat} {o o' : Obj} {l : List Res} (h : St W w (.b k o :: l)) (hg : w.grownBy w' (some k)) (ho : w'.heap[k]? = some o') : St W w' (.b k o' :: l) := by
  obtain ⟨S, h1, h2, h3⟩ := h.headK
  refine h3 w' (.b k o') (Kp.of hg fun j hj => ?_) ⟨ho, .inl h1.2⟩
  cases hj
  exact h1.2
theorem new_s {W w : World} {l : List Res} (h : St W w l) : Calls Try.prog 9 #[] w fun r w' => ∃ qb, r = .returned (.pointer (some ⟨qb, 0, none⟩)) ∧ St W w' (.q qb [] :: l) := by
  refine (new_any w).mono ?_
  rintro r w1 ⟨qb, rfl, hq, hg⟩
  exact ⟨qb, rfl, h.new hg _ hq⟩
theorem len_s {W w : World} {qb : Nat} {L : List E} {l : List Res} (h : St W w (.q qb L :: l)) : Calls Try.prog 22 #[.pointer (some ⟨qb, 0, none⟩)] w fun r w' => r = .returned (.int .i64 L.length) ∧ w' = w := by
  obtain ⟨S, h1, _, _⟩ := h.headK
  exact len_any w h1
/-- What At tells. -/
def atN (n : ByteArray) (L : List E) : Int := match getN n L with | some e => e.at_ | none => 0
theorem at_s {W w : World} {qb : Nat} {L : List E} {l : List Res} (h : St W w (.q qb L :: l)) {n : ByteArray} (hn : n.size ≤ maxLen) :
    Calls Try.prog 23 #[.pointer (some ⟨qb, 0, none⟩), .string n] w fun r w' => r = .returned (.tuple #[.int .u64 (atN n L), .bool (hasN n L)]) ∧ w' = w := by
  obtain ⟨S, h1, _, _⟩ := h.headK
  have h1' : Qu S w qb L := h1
  rw [getN_has]
  unfold atN
  cases e : getN n L with
  | none => exact at_none w h1' hn (getN_none e)
  | some x => exact at_some w h1' hn e
theorem put_s {W w : World} {qb : Nat} {L : List E} {l : List Res} (h : St W w (.q qb L :: l)) (n : ByteArray) (a : Int) (hn : n.size ≤ maxLen) (ha : 0 ≤ a ∧ a < 18446744073709551616) (hl : L.length < 100000) :
    Calls Try.prog 11 #[.pointer (some ⟨qb, 0, none⟩), .string n, .int .u64 a] w fun r w' => r = .returned (.bool (hasN n L)) ∧ St W w' (.q qb (putE ⟨n, a⟩ L) :: l) := by
  obtain ⟨S, h1, _, h3⟩ := h.headK
  refine (put_any w h1 ⟨n, a⟩ ⟨hn, ha⟩ hl).mono ?_
  rintro r w1 ⟨rfl, hq, hK⟩
  exact ⟨rfl, h3 w1 _ hK hq⟩
theorem drop_s {W w : World} {qb : Nat} {L : List E} {l : List Res} (h : St W w (.q qb L :: l)) (n : ByteArray) (hn : n.size ≤ maxLen) :
    Calls Try.prog 13 #[.pointer (some ⟨qb, 0, none⟩), .string n] w fun r w' => r = .returned (.bool (hasN n L)) ∧ St W w' (.q qb (delN n L) :: l) := by
  obtain ⟨S, h1, _, h3⟩ := h.headK
  refine (drop_any w h1 n hn).mono ?_
  rintro r w1 ⟨rfl, hq, hK⟩
  exact ⟨rfl, h3 w1 _ hK hq⟩
theorem front_s {W w : World} {qb : Nat} {L : List E} {l : List Res} (h : St W w (.q qb L :: l)) :
    Calls Try.prog 24 #[.pointer (some ⟨qb, 0, none⟩)] w fun r w' => r = .returned (.tuple #[.agg #[.string (fr L).1.n, .int .u64 (fr L).1.at_], .bool (fr L).2]) ∧ w.grownBy w' none := by
  obtain ⟨S, h1, _, _⟩ := h.headK
  exact front_q w h1
theorem pop_s {W w : World} {qb : Nat} {L : List E} {l : List Res} (h : St W w (.q qb L :: l)) :
    Calls Try.prog 15 #[.pointer (some ⟨qb, 0, none⟩)] w fun r w' => r = .returned (.tuple #[.agg #[.string (fr L).1.n, .int .u64 (fr L).1.at_], .bool (fr L).2]) ∧ St W w' (.q qb L.tail :: l) := by
  cases L with
  | nil =>
    obtain ⟨S, h1, _, _⟩ := h.headK
    refine (pop_none w h1).mono ?_
    rintro r w1 ⟨rfl, hg⟩
    exact ⟨rfl, h.grown hg⟩
  | cons f L =>
    obtain ⟨S, h1, h2, h3⟩ := h.headK
    refine (pop_some w h1 h2).mono ?_
    rintro r w1 ⟨rfl, hq, hK⟩
    exact ⟨rfl, h3 w1 _ hK hq⟩
theorem due_s {W w : World} {qb : Nat} {L : List E} {l : List Res} (h : St W w (.q qb L :: l)) (now : Int) :
    Calls Try.prog 17 #[.pointer (some ⟨qb, 0, none⟩), .int .u64 now] w fun r w' => ∃ a cap, r = .returned (.slice a (tkN now L).length cap) ∧ St W w' (.q qb (drN now L) :: .r 36 (.slice a (tkN now L).length cap) (tkN now L) :: l) := by
  obtain ⟨S, h1, h2, h3⟩ := h.headK2
  refine (due_any w h1 h2 now).mono ?_
  rintro r w1 ⟨v, rfl, hr, hn, hq, hK⟩
  obtain ⟨a, cap, rfl⟩ := hr.shape
  exact ⟨a, cap, rfl, h3 w1 _ _ _ (fun k => (Value.slice a (tkN now L).length cap).ownBlock = some k) hK hq ⟨hr, fun k hk => hk⟩ (fun k hk => hk.1) (fun k hk => .inr ⟨hn k hk, (hr.lt k hk).2⟩) (fun k hk => hk.2)⟩
end Go.Proofs.Ytipcoghhnbgalaa
