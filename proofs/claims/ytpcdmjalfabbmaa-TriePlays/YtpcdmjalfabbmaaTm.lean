/- A trie in memory: its places with their blocks, and what becomes of it. -/
import Derived.Test.YtpcdmjalfabbmaaTri
import Derived.Test.YtpcdmjalfabbmaaHas
namespace Go.Proofs.Ytpcdmjalfabbmaa
open Go.RowKit Go.IntWalk Go.Maps
set_option linter.unusedVariables false
/-- A node's block. -/
abbrev nobj (l : K) (v : ByteArray) (b : Bool) (m : Nat) : Obj := .cells #[.string (bt l), .string v, .bool b, .map (some m)] 64 (0, 0)
abbrev vOf (o : Option ByteArray) : ByteArray := o.getD (bt [])
/-- The kids that a map tells. -/
def Kf (P : List K) (nb : K → Nat) (p : K) (f : UInt8 → Option Nat) : Prop := ∀ c n, f c = some n ↔ ∃ q, Kid P p q ∧ p ++ [c] <+: q ∧ nb q = n
/-- A trie: P its places, nb their nodes, mb their maps, lab their labels, e their values. -/
structure Tm (w : World) (P : List K) (nb mb : K → Nat) (lab : K → K) (e : K → Option ByteArray) : Prop where
  root : [] ∈ P
  cl : Cl P
  nd : P.Nodup
  blk : ∀ p ∈ P, w.heap[nb p]? = some (nobj (lab p) (vOf (e p)) (e p).isSome (mb p))
  km : ∀ p ∈ P, ∃ f, Km w (mb p) f ∧ Kf P nb p f
  lb : ∀ p q, Kid P p q → q = p ++ lab q
  nbi : ∀ p ∈ P, ∀ q ∈ P, nb p = nb q → p = q
  mbi : ∀ p ∈ P, ∀ q ∈ P, mb p = mb q → p = q
  key : ∀ p, (e p).isSome = true → p ∈ P
  len : ∀ p ∈ P, p.length ≤ 100000
  rl : lab [] = []
/-- A trie's blocks. -/
def Fp (P : List K) (nb mb : K → Nat) (j : Nat) : Prop := ∃ p ∈ P, j = nb p ∨ j = mb p
/-- .. at one place another. -/
def fset {α : Type} (g : K → α) (k : K) (v : α) (q : K) : α := if q = k then v else g q
theorem fset_same {α : Type} (g : K → α) (k : K) (v : α) : fset g k v k = v := by simp [fset]
theorem fset_other {α : Type} (g : K → α) {k q : K} (v : α) (h : q ≠ k) : fset g k v q = g q := by simp [fset, h]
section
variable {w w' : World} {P : List K} {nb mb : K → Nat} {lab : K → K} {e : K → Option ByteArray}
theorem Tm.nlt (h : Tm w P nb mb lab e) {p : K} (hp : p ∈ P) : nb p < w.heap.size := (Array.getElem?_eq_some_iff.1 (h.blk p hp)).1
theorem Tm.mlt (h : Tm w P nb mb lab e) {p : K} (hp : p ∈ P) : mb p < w.heap.size := by obtain ⟨f, h1, _⟩ := h.km p hp; exact h1.lt
theorem Tm.flt (h : Tm w P nb mb lab e) {j : Nat} (hj : Fp P nb mb j) : j < w.heap.size := by
  obtain ⟨p, hp, rfl | rfl⟩ := hj
  · exact h.nlt hp
  · exact h.mlt hp
theorem Tm.nm (h : Tm w P nb mb lab e) {p q : K} (hp : p ∈ P) (hq : q ∈ P) : nb p ≠ mb q := fun e' => by
  obtain ⟨f, h1, _⟩ := h.km q hq
  obtain ⟨es, clock, h2⟩ := h1.isMap
  have h3 := h.blk p hp
  rw [e', h2] at h3
  cases h3
theorem Tm.c0 (h : Tm w P nb mb lab e) {p : K} (hp : p ∈ P) : w.cell? ⟨nb p, 0, none⟩ = some (.string (bt (lab p))) := by simp [World.cell?, h.blk p hp]
theorem Tm.c1 (h : Tm w P nb mb lab e) {p : K} (hp : p ∈ P) : w.cell? ⟨nb p, 1, none⟩ = some (.string (vOf (e p))) := by simp [World.cell?, h.blk p hp]
theorem Tm.c2 (h : Tm w P nb mb lab e) {p : K} (hp : p ∈ P) : w.cell? ⟨nb p, 2, none⟩ = some (.bool (e p).isSome) := by simp [World.cell?, h.blk p hp]
theorem Tm.c3 (h : Tm w P nb mb lab e) {p : K} (hp : p ∈ P) : w.cell? ⟨nb p, 3, none⟩ = some (.map (some (mb p))) := by simp [World.cell?, h.blk p hp]
theorem Tm.fz (h : Tm w P nb mb lab e) {p : K} (hp : p ∈ P) (i : Nat) : w.frozen? ⟨nb p, i, none⟩ = false := by simp [World.frozen?, h.blk p hp]
theorem Tm.kept (h : Tm w P nb mb lab e) (hb : ∀ j, Fp P nb mb j → w'.heap[j]? = w.heap[j]?) : Tm w' P nb mb lab e :=
  ⟨h.root, h.cl, h.nd, fun p hp => (hb _ ⟨p, hp, .inl rfl⟩).trans (h.blk p hp), fun p hp => by
    obtain ⟨f, h1, h2⟩ := h.km p hp
    exact ⟨f, h1.kept (hb _ ⟨p, hp, .inr rfl⟩), h2⟩, h.lb, h.nbi, h.mbi, h.key, h.len, h.rl⟩
theorem Tm.keep (h : Tm w P nb mb lab e) (hg : w.grownBy w' none) : Tm w' P nb mb lab e := h.kept fun j hj => hg.block j (h.flt hj) (by simp)
theorem Tm.congr (h : Tm w P nb mb lab e) {e' : K → Option ByteArray} (he : ∀ p, e p = e' p) : Tm w P nb mb lab e' := by
  have : e = e' := funext he
  exact this ▸ h
theorem Kf.none {nb : K → Nat} {p : K} {f : UInt8 → Option Nat} (h : Kf P nb p f) {c : UInt8} : f c = none ↔ ∀ q, Kid P p q → ¬ p ++ [c] <+: q := by
  constructor
  · intro hn q hq hc
    have := (h c (nb q)).2 ⟨q, hq, hc, rfl⟩
    rw [hn] at this
    cases this
  · intro hn
    cases hc : f c with
    | none => rfl
    | some n =>
      obtain ⟨q, hq, hcq, _⟩ := (h c n).1 hc
      exact absurd hcq (hn q hq)
theorem Kid.ne0 {p q : K} (h : Kid P p q) : q ≠ [] := by
  rintro rfl
  exact h.ne (List.prefix_nil.1 h.pre)
/-- Each place but the root has one above it. -/
theorem kid_up (h0 : [] ∈ P) : ∀ (n : Nat) {a q : K}, q.length - a.length ≤ n → a ∈ P → q ∈ P → a <+: q → a ≠ q → ∃ p, Kid P p q
  | n, a, q, hn, ha, hq, hpre, hne => by
    obtain ⟨c, l, rfl⟩ := pre_strict hpre hne
    obtain ⟨k, h1, h2, h3⟩ := kid_ex ha _ (Nat.le_refl _) hq (snoc_pre a c l)
    by_cases e : k = a ++ c :: l
    · exact ⟨a, e ▸ h1⟩
    · have := pre_len_lt h1.pre h1.ne
      have h4 := h3.length_le
      match n, hn with
      | 0, hn => simp at hn
      | n + 1, hn => exact kid_up h0 n (by omega) h1.lo hq h3 e
/-- A value set. -/
theorem Tm.setv (h : Tm w P nb mb lab e) {p : K} (hp : p ∈ P) (o : Option ByteArray) : Tm ((w.setCell ⟨nb p, 1, none⟩ (.string (vOf o))).setCell ⟨nb p, 2, none⟩ (.bool o.isSome)) P nb mb lab (fset e p o) := by
  have b1 := heap_set (heap_set (h.blk p hp) 1 (.string (vOf o))) 2 (.bool o.isSome)
  have hg := (grown_setCell w ⟨nb p, 1, none⟩ (.string (vOf o))).trans (grown_setCell _ ⟨nb p, 2, none⟩ (.bool o.isSome))
  have hk : ∀ j, Fp P nb mb j → j ≠ nb p → ((w.setCell ⟨nb p, 1, none⟩ (.string (vOf o))).setCell ⟨nb p, 2, none⟩ (.bool o.isSome)).heap[j]? = w.heap[j]? := fun j hj hne => hg.block j (h.flt hj) (by simpa using hne)
  refine ⟨h.root, h.cl, h.nd, fun q hq => ?_, fun q hq => ?_, h.lb, h.nbi, h.mbi, fun q hq => ?_, h.len, h.rl⟩
  · by_cases eq : q = p
    · subst eq
      rw [fset_same]
      exact b1
    · rw [fset_other _ _ eq, hk _ ⟨q, hq, .inl rfl⟩ fun e' => eq (h.nbi q hq p hp e')]
      exact h.blk q hq
  · obtain ⟨f, h1, h2⟩ := h.km q hq
    exact ⟨f, h1.kept (hk _ ⟨q, hq, .inr rfl⟩ fun e' => h.nm hp hq e'.symm), h2⟩
  · by_cases eq : q = p
    · exact eq ▸ hp
    · rw [fset_other _ _ eq] at hq
      exact h.key q hq
/-- A new place, with a node of its own. -/
theorem Tm.addk (h : Tm w P nb mb lab e) {p k : K} {c : UInt8} (hA : AddK P p k c) {l : K} (hk : k = p ++ l) (hkl : k.length ≤ 100000) {f : UInt8 → Option Nat} (hf : Kf P nb p f) {b m : Nat}
    (hkm : Km w' (mb p) (upd f c (some b))) (hb : w'.heap[b]? = some (nobj l (bt []) false m)) (hm : Km w' m fun _ => none) (hb0 : ¬ Fp P nb mb b) (hm0 : ¬ Fp P nb mb m) (hfr : ∀ j, Fp P nb mb j → j ≠ mb p → w'.heap[j]? = w.heap[j]?) :
    Tm w' (k :: P) (fset nb k b) (fset mb k m) (fset lab k l) e := by
  have hnk := hA.new
  have nk : ∀ q ∈ P, q ≠ k := fun q hq e' => hnk (e' ▸ hq)
  have hek : e k = none := by
    cases he : e k with
    | none => rfl
    | some v => exact absurd (h.key k (by rw [he]; rfl)) hnk
  refine ⟨List.mem_cons_of_mem _ h.root, hA.cl h.cl, List.nodup_cons.2 ⟨hnk, h.nd⟩, fun q hq => ?_, fun q hq => ?_, fun a q hK => ?_, fun a ha q hq e' => ?_, fun a ha q hq e' => ?_, fun q hq => List.mem_cons_of_mem _ (h.key q hq), fun q hq => ?_, by rw [fset_other _ _ (q := []) (fun e' => hnk (by rw [← e']; exact h.root))]; exact h.rl⟩
  · rcases List.mem_cons.1 hq with rfl | hq
    · rw [fset_same, fset_same, fset_same, hek]
      exact hb
    · have e' := nk q hq
      rw [fset_other _ _ e', fset_other _ _ e', fset_other _ _ e', hfr _ ⟨q, hq, .inl rfl⟩ (h.nm hq hA.up)]
      exact h.blk q hq
  · rcases List.mem_cons.1 hq with rfl | hq
    · rw [fset_same]
      refine ⟨_, hm, fun d n => ?_⟩
      constructor
      · intro hc; cases hc
      · rintro ⟨x, hx, _⟩
        rcases hA.kid.1 hx with hx | ⟨hx, _⟩
        · exact absurd hx.up hnk
        · exact absurd hA.up (hx ▸ hnk)
    · have e' := nk q hq
      rw [fset_other _ _ e']
      by_cases eqp : q = p
      · subst eqp
        refine ⟨_, hkm, fun d n => ?_⟩
        unfold upd
        by_cases ed : d = c
        · subst ed
          simp only [if_true, Option.some.injEq]
          constructor
          · rintro rfl
            exact ⟨k, hA.kid.2 (.inr ⟨rfl, rfl⟩), hA.pre, fset_same _ _ _⟩
          · rintro ⟨x, hx, hdx, rfl⟩
            rcases hA.kid.1 hx with hx | ⟨_, rfl⟩
            · exact absurd hdx (hA.no x hx.lo)
            · exact (fset_same _ _ _).symm
        · simp only [ed, if_false]
          rw [hf d n]
          constructor
          · rintro ⟨x, hx, hdx, rfl⟩
            exact ⟨x, hA.kid.2 (.inl hx), hdx, fset_other _ _ (nk x hx.lo)⟩
          · rintro ⟨x, hx, hdx, rfl⟩
            rcases hA.kid.1 hx with hx | ⟨_, rfl⟩
            · exact ⟨x, hx, hdx, (fset_other _ _ (nk x hx.lo)).symm⟩
            · exact absurd (snoc_inj hdx hA.pre) ed
      · obtain ⟨g, h1, h2⟩ := h.km q hq
        refine ⟨g, h1.kept (hfr _ ⟨q, hq, .inr rfl⟩ fun e2 => eqp (h.mbi q hq p hA.up e2)), fun d n => ?_⟩
        rw [h2 d n]
        constructor
        · rintro ⟨x, hx, hdx, rfl⟩
          exact ⟨x, hA.kid.2 (.inl hx), hdx, fset_other _ _ (nk x hx.lo)⟩
        · rintro ⟨x, hx, hdx, rfl⟩
          rcases hA.kid.1 hx with hx | ⟨hx, _⟩
          · exact ⟨x, hx, hdx, (fset_other _ _ (nk x hx.lo)).symm⟩
          · exact absurd hx eqp
  · rcases hA.kid.1 hK with hK | ⟨rfl, rfl⟩
    · rw [fset_other _ _ (nk q hK.lo)]
      exact h.lb a q hK
    · rw [fset_same]
      exact hk
  · rcases List.mem_cons.1 ha with ea | ha' <;> rcases List.mem_cons.1 hq with eb | hq'
    · rw [ea, eb]
    · subst ea
      rw [fset_same, fset_other _ _ (nk q hq')] at e'
      exact absurd ⟨q, hq', .inl e'⟩ hb0
    · subst eb
      rw [fset_same, fset_other _ _ (nk a ha')] at e'
      exact absurd ⟨a, ha', .inl e'.symm⟩ hb0
    · rw [fset_other _ _ (nk q hq'), fset_other _ _ (nk a ha')] at e'
      exact h.nbi a ha' q hq' e'
  · rcases List.mem_cons.1 ha with ea | ha' <;> rcases List.mem_cons.1 hq with eb | hq'
    · rw [ea, eb]
    · subst ea
      rw [fset_same, fset_other _ _ (nk q hq')] at e'
      exact absurd ⟨q, hq', .inr e'⟩ hm0
    · subst eb
      rw [fset_same, fset_other _ _ (nk a ha')] at e'
      exact absurd ⟨a, ha', .inr e'.symm⟩ hm0
    · rw [fset_other _ _ (nk q hq'), fset_other _ _ (nk a ha')] at e'
      exact h.mbi a ha' q hq' e'
  · rcases List.mem_cons.1 hq with rfl | hq
    · exact hkl
    · exact h.len q hq
/-- A place parted: the node of k is m's now, and k has a new one. -/
theorem Tm.part (h : Tm w P nb mb lab e) {p m k : K} (hP : Part P p m k) {lm lk : K} (hlm : m = p ++ lm) (hlk : k = m ++ lk) {c : UInt8} (hc : m ++ [c] <+: k) {um lo : Nat}
    (hu : w'.heap[nb k]? = some (nobj lm (bt []) false um)) (hum : Km w' um (upd (fun _ => none) c (some lo))) (hl : w'.heap[lo]? = some (nobj lk (vOf (e k)) (e k).isSome (mb k))) (hum0 : ¬ Fp P nb mb um) (hlo0 : ¬ Fp P nb mb lo) (hfr : ∀ j, Fp P nb mb j → j ≠ nb k → w'.heap[j]? = w.heap[j]?) :
    Tm w' (m :: P) (fset (fset nb m (nb k)) k lo) (fset mb m um) (fset (fset lab m lm) k lk) e := by
  have hnm := hP.new
  have nm : ∀ q ∈ P, q ≠ m := fun q hq e' => hnm (e' ▸ hq)
  have hkm := hP.nk
  have hkP := hP.kid.lo
  have hpP := hP.kid.up
  have hem : e m = none := by
    cases he : e m with
    | none => rfl
    | some v => exact absurd (h.key m (by rw [he]; rfl)) hnm
  have nbm : fset (fset nb m (nb k)) k lo m = nb k := by rw [fset_other _ _ hkm, fset_same]
  have nbo : ∀ q ∈ P, q ≠ k → fset (fset nb m (nb k)) k lo q = nb q := fun q hq hn => by rw [fset_other _ _ hn, fset_other _ _ (nm q hq)]
  refine ⟨List.mem_cons_of_mem _ h.root, hP.cl h.cl, List.nodup_cons.2 ⟨hnm, h.nd⟩, fun q hq => ?_, fun q hq => ?_, fun a q hK => ?_, fun a ha q hq e' => ?_, fun a ha q hq e' => ?_, fun q hq => List.mem_cons_of_mem _ (h.key q hq), fun q hq => ?_, by rw [fset_other _ _ (q := []) (fun e' => hP.kid.ne0 e'.symm), fset_other _ _ (q := []) (fun e' => hnm (by rw [← e']; exact h.root))]; exact h.rl⟩
  · rcases List.mem_cons.1 hq with rfl | hq
    · rw [nbm, fset_other _ _ hkm, fset_same, fset_same, hem]
      exact hu
    · by_cases eq : q = k
      · subst eq
        rw [fset_same, fset_same, fset_other _ _ (nm q hq)]
        exact hl
      · rw [nbo q hq eq, fset_other _ _ eq, fset_other _ _ (nm q hq), fset_other _ _ (nm q hq), hfr _ ⟨q, hq, .inl rfl⟩ fun e2 => eq (h.nbi q hq k hkP e2)]
        exact h.blk q hq
  · rcases List.mem_cons.1 hq with rfl | hq
    · rw [fset_same]
      refine ⟨_, hum, fun d n => ?_⟩
      have hkid : Kid (q :: P) q k := (hP.kid' h.cl).2 (.inr (.inr ⟨rfl, rfl⟩))
      unfold upd
      by_cases ed : d = c
      · subst ed
        simp only [if_true, Option.some.injEq]
        constructor
        · rintro rfl
          exact ⟨k, hkid, hc, fset_same _ _ _⟩
        · rintro ⟨x, hx, hdx, rfl⟩
          rw [hkid.un (hP.cl h.cl) hx hc hdx] at *
          exact (fset_same _ _ _).symm
      · simp only [ed, if_false]
        constructor
        · intro hc'; cases hc'
        · rintro ⟨x, hx, hdx, rfl⟩
          rcases (hP.kid' h.cl).1 hx with ⟨hx, _⟩ | ⟨_, rfl⟩ | ⟨_, rfl⟩
          · exact absurd hx.up hnm
          · exact absurd rfl hx.ne
          · exact absurd (snoc_inj hdx hc) ed
    · rw [fset_other _ _ (nm q hq)]
      obtain ⟨g, h1, h2⟩ := h.km q hq
      refine ⟨g, h1.kept (hfr _ ⟨q, hq, .inr rfl⟩ fun e2 => h.nm hkP hq e2.symm), fun d n => ?_⟩
      rw [h2 d n]
      constructor
      · rintro ⟨x, hx, hdx, rfl⟩
        by_cases ex : q = p ∧ x = k
        · obtain ⟨rfl, rfl⟩ := ex
          obtain ⟨t, ht⟩ := hdx
          refine ⟨m, (hP.kid' h.cl).2 (.inr (.inl ⟨rfl, rfl⟩)), pre_next (l := t) hP.lo hP.ne (by rw [← List.singleton_append, ← List.append_assoc, ht]; exact hP.hi), nbm⟩
        · have hxk : x ≠ k := fun e2 => ex ⟨Kid.one hx (e2 ▸ hP.kid), e2⟩
          exact ⟨x, (hP.kid' h.cl).2 (.inl ⟨hx, ex⟩), hdx, nbo x hx.lo hxk⟩
      · rintro ⟨x, hx, hdx, rfl⟩
        rcases (hP.kid' h.cl).1 hx with ⟨hx, hn⟩ | ⟨rfl, rfl⟩ | ⟨rfl, rfl⟩
        · have hxk : x ≠ k := fun e2 => hn ⟨Kid.one hx (e2 ▸ hP.kid), e2⟩
          exact ⟨x, hx, hdx, (nbo x hx.lo hxk).symm⟩
        · exact ⟨k, hP.kid, hdx.trans hP.hi, nbm.symm⟩
        · exact (hnm (by assumption)).elim
  · rcases (hP.kid' h.cl).1 hK with ⟨hK, hn⟩ | ⟨rfl, rfl⟩ | ⟨rfl, rfl⟩
    · have hxk : q ≠ k := fun e2 => hn ⟨Kid.one hK (e2 ▸ hP.kid), e2⟩
      rw [fset_other _ _ hxk, fset_other _ _ (nm q hK.lo)]
      exact h.lb a q hK
    · rw [fset_other _ _ hkm, fset_same]
      exact hlm
    · rw [fset_same]
      exact hlk
  · have go : ∀ x ∈ P, fset (fset nb m (nb k)) k lo x = nb k → False := fun x hx e2 => by
      by_cases ex : x = k
      · subst ex
        rw [fset_same] at e2
        exact hlo0 ⟨x, hx, .inl e2⟩
      · rw [nbo x hx ex] at e2
        exact ex (h.nbi x hx k hkP e2)
    rcases List.mem_cons.1 ha with ea | ha' <;> rcases List.mem_cons.1 hq with eb | hq'
    · rw [ea, eb]
    · subst ea
      rw [nbm] at e'
      exact (go q hq' e'.symm).elim
    · subst eb
      rw [nbm] at e'
      exact (go a ha' e').elim
    · by_cases e1 : a = k <;> by_cases e2 : q = k
      · rw [e1, e2]
      · subst e1
        rw [fset_same, nbo q hq' e2] at e'
        exact absurd ⟨q, hq', .inl e'⟩ hlo0
      · subst e2
        rw [fset_same, nbo a ha' e1] at e'
        exact absurd ⟨a, ha', .inl e'.symm⟩ hlo0
      · rw [nbo a ha' e1, nbo q hq' e2] at e'
        exact h.nbi a ha' q hq' e'
  · rcases List.mem_cons.1 ha with ea | ha' <;> rcases List.mem_cons.1 hq with eb | hq'
    · rw [ea, eb]
    · subst ea
      rw [fset_same, fset_other _ _ (nm q hq')] at e'
      exact absurd ⟨q, hq', .inr e'⟩ hum0
    · subst eb
      rw [fset_same, fset_other _ _ (nm a ha')] at e'
      exact absurd ⟨a, ha', .inr e'.symm⟩ hum0
    · rw [fset_other _ _ (nm q hq'), fset_other _ _ (nm a ha')] at e'
      exact h.mbi a ha' q hq' e'
  · rcases List.mem_cons.1 hq with rfl | hq
    · have h1 := hP.hi.length_le
      have h2 := h.len k hkP
      omega
    · exact h.len q hq
/-- A leaf taken away. -/
theorem Tm.leaf (h : Tm w P nb mb lab e) {p k : K} (hK : Kid P p k) (hl : ∀ b, ¬ Kid P k b) (hek : e k = none) {c : UInt8} (hc : p ++ [c] <+: k) {f : UInt8 → Option Nat} (hf : Kf P nb p f)
    (hkm : Km w' (mb p) (upd f c none)) (hfr : ∀ j, Fp P nb mb j → j ≠ mb p → w'.heap[j]? = w.heap[j]?) : Tm w' (rmv k P) nb mb lab e := by
  have hkid := fun {a b : K} => leaf_kid (a := a) (b := b) hK.lo hl
  refine ⟨mem_rmv.2 ⟨h.root, hK.ne0.symm⟩, leaf_cl h.cl hK.lo hl, rmv_nodup h.nd k, fun q hq => ?_, fun q hq => ?_, fun a q hq => h.lb a q (hkid.1 hq).1, fun a ha q hq => h.nbi a (mem_rmv.1 ha).1 q (mem_rmv.1 hq).1, fun a ha q hq => h.mbi a (mem_rmv.1 ha).1 q (mem_rmv.1 hq).1, fun q hq => mem_rmv.2 ⟨h.key q hq, fun e' => by rw [e', hek] at hq; cases hq⟩, fun q hq => h.len q (mem_rmv.1 hq).1, h.rl⟩
  · obtain ⟨hq, hn⟩ := mem_rmv.1 hq
    rw [hfr _ ⟨q, hq, .inl rfl⟩ (h.nm hq hK.up)]
    exact h.blk q hq
  · obtain ⟨hq, hn⟩ := mem_rmv.1 hq
    by_cases eq : q = p
    · subst eq
      refine ⟨_, hkm, fun d n => ?_⟩
      unfold upd
      by_cases ed : d = c
      · subst ed
        simp only [if_true]
        constructor
        · intro hc'; cases hc'
        · rintro ⟨x, hx, hdx, _⟩
          obtain ⟨hx, hxk⟩ := hkid.1 hx
          exact absurd (hx.un h.cl hK hdx hc) hxk
      · simp only [ed, if_false]
        rw [hf d n]
        constructor
        · rintro ⟨x, hx, hdx, hn'⟩
          refine ⟨x, hkid.2 ⟨hx, fun e' => ?_⟩, hdx, hn'⟩
          subst e'
          exact ed (snoc_inj hdx hc)
        · rintro ⟨x, hx, hdx, hn'⟩
          exact ⟨x, (hkid.1 hx).1, hdx, hn'⟩
    · obtain ⟨g, h1, h2⟩ := h.km q hq
      refine ⟨g, h1.kept (hfr _ ⟨q, hq, .inr rfl⟩ fun e2 => eq (h.mbi q hq p hK.up e2)), fun d n => ?_⟩
      rw [h2 d n]
      constructor
      · rintro ⟨x, hx, hdx, hn'⟩
        refine ⟨x, hkid.2 ⟨hx, fun e' => ?_⟩, hdx, hn'⟩
        subst e'
        exact eq (Kid.one hx hK)
      · rintro ⟨x, hx, hdx, hn'⟩
        exact ⟨x, (hkid.1 hx).1, hdx, hn'⟩
/-- A place and its only kid become one. -/
theorem Tm.join (h : Tm w P nb mb lab e) {n q : K} (hn0 : n ≠ []) (hK : Kid P n q) (h1 : ∀ b, Kid P n b → b = q) (hen : e n = none)
    (hb : w'.heap[nb n]? = some (nobj (lab n ++ lab q) (vOf (e q)) (e q).isSome (mb q))) (hfr : ∀ j, Fp P nb mb j → j ≠ nb n → w'.heap[j]? = w.heap[j]?) :
    Tm w' (rmv n P) (fset nb q (nb n)) mb (fset lab q (lab n ++ lab q)) e := by
  have hkid := fun {a b : K} => one_kid (a := a) (b := b) h.cl hK h1
  have hqn : q ≠ n := hK.ne.symm
  refine ⟨mem_rmv.2 ⟨h.root, hn0.symm⟩, one_cl h.cl hK h1, rmv_nodup h.nd n, fun x hx => ?_, fun x hx => ?_, fun a x hx => ?_, fun a ha x hx e' => ?_, fun a ha x hx => h.mbi a (mem_rmv.1 ha).1 x (mem_rmv.1 hx).1, fun x hx => mem_rmv.2 ⟨h.key x hx, fun e' => by rw [e', hen] at hx; cases hx⟩, fun x hx => h.len x (mem_rmv.1 hx).1, by rw [fset_other _ _ (q := []) (fun e' => hK.ne0 e'.symm)]; exact h.rl⟩
  · obtain ⟨hx, hn⟩ := mem_rmv.1 hx
    by_cases ex : x = q
    · subst ex
      rw [fset_same, fset_same]
      exact hb
    · rw [fset_other _ _ ex, fset_other _ _ ex, hfr _ ⟨x, hx, .inl rfl⟩ fun e2 => hn (h.nbi x hx n hK.up e2)]
      exact h.blk x hx
  · obtain ⟨hx, hn⟩ := mem_rmv.1 hx
    obtain ⟨g, h2, h3⟩ := h.km x hx
    refine ⟨g, h2.kept (hfr _ ⟨x, hx, .inr rfl⟩ fun e2 => h.nm hK.up hx e2.symm), fun d j => ?_⟩
    rw [h3 d j]
    constructor
    · rintro ⟨y, hy, hdy, rfl⟩
      by_cases ey : y = n
      · subst ey
        exact ⟨q, hkid.2 (.inr ⟨hy, rfl⟩), hdy.trans hK.pre, fset_same _ _ _⟩
      · have hyq : y ≠ q := fun e2 => hn (Kid.one hy (e2 ▸ hK))
        exact ⟨y, hkid.2 (.inl ⟨hy, hn, ey⟩), hdy, fset_other _ _ hyq⟩
    · rintro ⟨y, hy, hdy, rfl⟩
      rcases hkid.1 hy with ⟨hy, _, ey⟩ | ⟨hy, rfl⟩
      · have hyq : y ≠ q := fun e2 => hn (Kid.one hy (e2 ▸ hK))
        exact ⟨y, hy, hdy, (fset_other _ _ hyq).symm⟩
      · refine ⟨n, hy, ?_, (fset_same _ _ _).symm⟩
        obtain ⟨t, ht⟩ := hdy
        exact pre_next (l := t) hy.pre hy.ne (by rw [← List.singleton_append, ← List.append_assoc, ht]; exact hK.pre)
  · rcases hkid.1 hx with ⟨hx, ha, hxn⟩ | ⟨hx, rfl⟩
    · have hxq : x ≠ q := fun e2 => ha (Kid.one hx (e2 ▸ hK))
      rw [fset_other _ _ hxq]
      exact h.lb a x hx
    · rw [fset_same]
      have e1 := h.lb a n hx
      have e2 := h.lb n x hK
      rw [← List.append_assoc, ← e1]
      exact e2
  · obtain ⟨ha, han⟩ := mem_rmv.1 ha
    obtain ⟨hx, hxn⟩ := mem_rmv.1 hx
    by_cases e1 : a = q <;> by_cases e2 : x = q
    · rw [e1, e2]
    · subst e1
      rw [fset_same, fset_other _ _ e2] at e'
      exact absurd (h.nbi n hK.up x hx e').symm hxn
    · subst e2
      rw [fset_same, fset_other _ _ e1] at e'
      exact absurd (h.nbi a ha n hK.up e') han
    · rw [fset_other _ _ e1, fset_other _ _ e2] at e'
      exact h.nbi a ha x hx e'
end
end Go.Proofs.Ytpcdmjalfabbmaa
