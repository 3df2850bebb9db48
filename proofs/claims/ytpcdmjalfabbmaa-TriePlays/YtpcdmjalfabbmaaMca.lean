/- Part of a trie, in blocks of its own: what a copy has made so far. -/
import Derived.Test.YtpcdmjalfabbmaaPut
import Derived.Test.YtpcdmjalfabbmaaAbs
namespace Go.Proofs.Ytpcdmjalfabbmaa
open Go.RowKit Go.IntWalk Go.Maps
set_option linter.unusedVariables false
/-- The places of which Z is true, in memory, in blocks from n₀ on. -/
structure Sz (n₀ : Nat) (w : World) (P : List K) (Z : K → Prop) (nb mb : K → Nat) (lab : K → K) (e : K → Option ByteArray) : Prop where
  blk : ∀ q, Z q → w.heap[nb q]? = some (nobj (lab q) (vOf (e q)) (e q).isSome (mb q))
  km : ∀ q, Z q → ∃ f, Km w (mb q) f ∧ Kf P nb q f
  lo : ∀ q, Z q → n₀ ≤ nb q ∧ n₀ ≤ mb q
  nbi : ∀ q r, Z q → Z r → nb q = nb r → q = r
  mbi : ∀ q r, Z q → Z r → mb q = mb r → q = r
  cl : ∀ q r, Z q → Kid P q r → Z r
section
variable {n₀ n₁ : Nat} {w w' : World} {P : List K} {Z Z' : K → Prop} {nb mb nb' mb' : K → Nat} {lab : K → K} {e : K → Option ByteArray}
theorem Sz.hi (h : Sz n₀ w P Z nb mb lab e) {q : K} (hq : Z q) : nb q < w.heap.size ∧ mb q < w.heap.size := by
  obtain ⟨f, h1, _⟩ := h.km q hq
  exact ⟨(Array.getElem?_eq_some_iff.1 (h.blk q hq)).1, h1.lt⟩
theorem Sz.kept (h : Sz n₀ w P Z nb mb lab e) (hb : ∀ j, n₀ ≤ j → j < w.heap.size → w'.heap[j]? = w.heap[j]?) : Sz n₀ w' P Z nb mb lab e :=
  ⟨fun q hq => (hb _ (h.lo q hq).1 (h.hi hq).1).trans (h.blk q hq), fun q hq => by
    obtain ⟨f, h1, h2⟩ := h.km q hq
    exact ⟨f, h1.kept (hb _ (h.lo q hq).2 (h.hi hq).2), h2⟩, h.lo, h.nbi, h.mbi, h.cl⟩
theorem Sz.keep (h : Sz n₀ w P Z nb mb lab e) {r : Option Nat} (hg : w.grownBy w' r) (hr : ∀ k, r = some k → k < n₀) : Sz n₀ w' P Z nb mb lab e :=
  h.kept fun j h1 h2 => hg.block j h2 fun e => by have := hr j e.symm; omega
theorem Kf.congr {p : K} {f : UInt8 → Option Nat} (h : Kf P nb p f) (he : ∀ q, Kid P p q → nb' q = nb q) : Kf P nb' p f := fun c n => by
  rw [h c n]
  constructor
  · rintro ⟨q, h1, h2, h3⟩
    exact ⟨q, h1, h2, (he q h1).trans h3⟩
  · rintro ⟨q, h1, h2, h3⟩
    exact ⟨q, h1, h2, (he q h1).symm.trans h3⟩
open Classical in
/-- Two parts, apart, become one. -/
theorem Sz.glue (h : Sz n₀ w P Z nb mb lab e) (h' : Sz n₁ w P Z' nb' mb' lab e) (hn : n₀ ≤ n₁) (hlt : ∀ q, Z q → nb q < n₁ ∧ mb q < n₁) (hd : ∀ q, Z q → ¬ Z' q) :
    Sz n₀ w P (fun q => Z q ∨ Z' q) (fun q => if Z' q then nb' q else nb q) (fun q => if Z' q then mb' q else mb q) lab e := by
  refine ⟨fun q hq => ?_, fun q hq => ?_, fun q hq => ?_, fun q r hq hr => ?_, fun q r hq hr => ?_, fun q r hq hK => ?_⟩
  · rcases hq with hq | hq
    · rw [if_neg (hd q hq), if_neg (hd q hq)]; exact h.blk q hq
    · rw [if_pos hq, if_pos hq]; exact h'.blk q hq
  · rcases hq with hq | hq
    · rw [if_neg (hd q hq)]
      obtain ⟨f, h1, h2⟩ := h.km q hq
      exact ⟨f, h1, h2.congr fun r hr => if_neg (hd r (h.cl q r hq hr))⟩
    · rw [if_pos hq]
      obtain ⟨f, h1, h2⟩ := h'.km q hq
      exact ⟨f, h1, h2.congr fun r hr => if_pos (h'.cl q r hq hr)⟩
  · rcases hq with hq | hq
    · rw [if_neg (hd q hq), if_neg (hd q hq)]; exact h.lo q hq
    · rw [if_pos hq, if_pos hq]; have := h'.lo q hq; omega
  · rcases hq with hq | hq <;> rcases hr with hr | hr
    · rw [if_neg (hd q hq), if_neg (hd r hr)]; exact h.nbi q r hq hr
    · rw [if_neg (hd q hq), if_pos hr]; intro e'; have := (hlt q hq).1; have := (h'.lo r hr).1; omega
    · rw [if_pos hq, if_neg (hd r hr)]; intro e'; have := (hlt r hr).1; have := (h'.lo q hq).1; omega
    · rw [if_pos hq, if_pos hr]; exact h'.nbi q r hq hr
  · rcases hq with hq | hq <;> rcases hr with hr | hr
    · rw [if_neg (hd q hq), if_neg (hd r hr)]; exact h.mbi q r hq hr
    · rw [if_neg (hd q hq), if_pos hr]; intro e'; have := (hlt q hq).2; have := (h'.lo r hr).2; omega
    · rw [if_pos hq, if_neg (hd r hr)]; intro e'; have := (hlt r hr).2; have := (h'.lo q hq).2; omega
    · rw [if_pos hq, if_pos hr]; exact h'.mbi q r hq hr
  · rcases hq with hq | hq
    · exact .inl (h.cl q r hq hK)
    · exact .inr (h'.cl q r hq hK)
/-- The place above a part. -/
theorem Sz.root (h : Sz n₁ w P Z nb mb lab e) {p : K} {b m : Nat} (hp : ¬ Z p) (hb : w.heap[b]? = some (nobj (lab p) (vOf (e p)) (e p).isSome m)) {f : UInt8 → Option Nat} (hm : Km w m f) (hf : Kf P nb p f) (hk : ∀ q, Kid P p q → Z q)
    (h0 : n₀ ≤ b ∧ n₀ ≤ m) (hbn : b < n₁ ∧ m < n₁) : Sz n₀ w P (fun q => q = p ∨ Z q) (fset nb p b) (fset mb p m) lab e := by
  have hne : ∀ q, Z q → q ≠ p := fun q hq e' => hp (e' ▸ hq)
  refine ⟨fun q hq => ?_, fun q hq => ?_, fun q hq => ?_, fun q r hq hr => ?_, fun q r hq hr => ?_, fun q r hq hK => ?_⟩
  · rcases hq with rfl | hq
    · rw [fset_same, fset_same]; exact hb
    · rw [fset_other _ _ (hne q hq), fset_other _ _ (hne q hq)]; exact h.blk q hq
  · rcases hq with rfl | hq
    · rw [fset_same]
      exact ⟨f, hm, hf.congr fun r hr => fset_other _ _ (hne r (hk r hr))⟩
    · rw [fset_other _ _ (hne q hq)]
      obtain ⟨g, h1, h2⟩ := h.km q hq
      exact ⟨g, h1, h2.congr fun r hr => fset_other _ _ (hne r (h.cl q r hq hr))⟩
  · rcases hq with rfl | hq
    · rw [fset_same, fset_same]; exact h0
    · rw [fset_other _ _ (hne q hq), fset_other _ _ (hne q hq)]; have := h.lo q hq; omega
  · rcases hq with rfl | hq <;> rcases hr with rfl | hr
    · intro _; rfl
    · rw [fset_same, fset_other _ _ (hne r hr)]; intro e'; have := (h.lo r hr).1; omega
    · rw [fset_same, fset_other _ _ (hne q hq)]; intro e'; have := (h.lo q hq).1; omega
    · rw [fset_other _ _ (hne q hq), fset_other _ _ (hne r hr)]; exact h.nbi q r hq hr
  · rcases hq with rfl | hq <;> rcases hr with rfl | hr
    · intro _; rfl
    · rw [fset_same, fset_other _ _ (hne r hr)]; intro e'; have := (h.lo r hr).2; omega
    · rw [fset_same, fset_other _ _ (hne q hq)]; intro e'; have := (h.lo q hq).2; omega
    · rw [fset_other _ _ (hne q hq), fset_other _ _ (hne r hr)]; exact h.mbi q r hq hr
  · rcases hq with rfl | hq
    · exact .inr (hk r hK)
    · exact .inr (h.cl q r hq hK)
theorem Sz.congr (h : Sz n₀ w P Z nb mb lab e) (hz : ∀ q, Z q ↔ Z' q) : Sz n₀ w P Z' nb mb lab e := by
  have : Z = Z' := funext fun q => propext (hz q)
  exact this ▸ h
end
end Go.Proofs.Ytpcdmjalfabbmaa

/- node.copied: a node with the same, and so are all below it. -/
namespace Go.Proofs.Ytpcdmjalfabbmaa
open Go.RowKit Go.IntWalk Go.Maps
set_option linter.unusedVariables false
/-- The places below p whose next byte has come. -/
def Zv (P : List K) (p : K) (V : UInt8 → Bool) (q : K) : Prop := q ∈ P ∧ ∃ c, V c = true ∧ p ++ [c] <+: q
/-- p and the places below it. -/
def Zs (P : List K) (p q : K) : Prop := q ∈ P ∧ p <+: q
theorem Zv.ne {P : List K} {p : K} {V : UInt8 → Bool} : ¬ Zv P p V p := fun ⟨_, c, _, h⟩ => by
  have := h.length_le
  simp at this
  omega
theorem Zv.kid {P : List K} {p : K} {V : UInt8 → Bool} {q r : K} (h : Zv P p V q) (hK : Kid P q r) : Zv P p V r := by
  obtain ⟨_, c, hc, hq⟩ := h
  exact ⟨hK.lo, c, hc, hq.trans hK.pre⟩
theorem kid_below {P : List K} {p k q : K} {c : UInt8} (hc : Cl P) (hK : Kid P p k) (hk : p ++ [c] <+: k) (hq : q ∈ P) (h : p ++ [c] <+: q) : k <+: q := by
  obtain ⟨k', h1, h2, h3⟩ := kid_ex hK.up _ (Nat.le_refl _) hq h
  rwa [Kid.un hc hK h1 hk h2]
theorem snoc_un {p q : K} {c d : UInt8} (h : p ++ [c] <+: q) (h' : p ++ [d] <+: q) : c = d := by
  obtain ⟨t, rfl⟩ := h
  obtain ⟨t', ht⟩ := h'
  simp only [List.append_assoc, List.append_cancel_left_eq, List.singleton_append, List.cons.injEq] at ht
  exact ht.1.symm
/-- What the loop has made. -/
structure Cst (w wr : World) (P : List K) (p : K) (f : UInt8 → Option Nat) (left : Lit → Bool) (nb mb : K → Nat) (lab : K → K) (e : K → Option ByteArray) (g : UInt8 → Option Nat) (b m n₁ : Nat) : Prop where
  sz : Sz n₁ wr P (Zv P p fun c => (f c).isSome && !left (kc c)) nb mb lab e
  km : Km wr m g
  kf : ∀ c n, g c = some n ↔ ((f c).isSome && !left (kc c)) = true ∧ ∃ q, Kid P p q ∧ p ++ [c] <+: q ∧ nb q = n
  bb : wr.heap[b]? = some (nobj (lab p) (vOf (e p)) (e p).isSome m)
  gr : w.grownBy wr none
theorem Cst.keep {w wr wn : World} {P : List K} {p : K} {f : UInt8 → Option Nat} {left : Lit → Bool} {nb mb : K → Nat} {lab : K → K} {e : K → Option ByteArray} {g : UInt8 → Option Nat} {b m n₁ r : Nat}
    (h : Cst w wr P p f left nb mb lab e g b m n₁) (hg : wr.grownBy wn (some r)) (hr : r < n₁) (hb : b ≠ r) (hm : m ≠ r) (hw : w.heap.size ≤ r) : Cst w wn P p f left nb mb lab e g b m n₁ :=
  ⟨h.sz.keep hg (fun j e => by cases e; exact hr), h.km.kept (hg.block m h.km.lt (by simpa using hm)), h.kf, (hg.block b (Array.getElem?_eq_some_iff.1 h.bb).1 (by simpa using hb)).trans h.bb, grown_new h.gr hg hw⟩
open Classical in
/-- A kid more. -/
theorem Cst.step {w wr w6 w7 : World} {P : List K} {p k : K} {f : UInt8 → Option Nat} {left : Lit → Bool} {nb mb nb2 mb2 : K → Nat} {lab : K → K} {e : K → Option ByteArray} {g : UInt8 → Option Nat} {b m n₁ n₂ : Nat}
    (h : Cst w wr P p f left nb mb lab e g b m n₁) (hcl : Cl P) {c : UInt8} (hK : Kid P p k) (hk : p ++ [c] <+: k) (hfc : (f c).isSome = true) (hlc : left (kc c) = true)
    (hS : Sz n₂ w6 P (Zs P k) nb2 mb2 lab e) (hg6 : wr.grownBy w6 none) (hn : n₁ ≤ wr.heap.size) (hn2 : wr.heap.size ≤ n₂) (hm : Km w7 m (upd g c (some (nb2 k)))) (hg7 : w6.grownBy w7 (some m)) (hbm : b ≠ m) (hb1 : b < wr.heap.size) (hm1 : m < n₁) (hw : w.heap.size ≤ m) :
    Cst w w7 P p f (fun z => left z && !z.sameKey (kc c)) (fun q => if Zs P k q then nb2 q else nb q) (fun q => if Zs P k q then mb2 q else mb q) lab e (upd g c (some (nb2 k))) b m n₁ := by
  have hV : ∀ d, ((f d).isSome && !(left (kc d) && !(kc d).sameKey (kc c))) = true ↔ ((f d).isSome && !left (kc d)) = true ∨ d = c := fun d => by
    by_cases hd : d = c
    · subst hd
      rw [WideAt.sameKey_self (kc_key _)]
      simp [hfc]
    · have : (kc d).sameKey (kc c) = false := by
        cases hs : Lit.sameKey (kc d) (kc c) with
        | false => rfl
        | true => exact absurd (kc_inj (WideAt.sameKey_eq hs)) hd
      rw [this]
      simp [hd]
  have hd : ∀ q, Zv P p (fun c => (f c).isSome && !left (kc c)) q → ¬ Zs P k q := fun q ⟨_, d, hVd, hdq⟩ ⟨_, hkq⟩ => by
    have := snoc_un hdq (hk.trans hkq)
    subst this
    simp only [hlc, Bool.not_true, Bool.and_false] at hVd
    cases hVd
  have hs6 := h.sz.keep hg6 (fun k e => by cases e)
  have hgl := (hs6.glue hS (Nat.le_trans hn hn2) (fun q hq => by have := h.sz.hi hq; omega) hd).keep hg7 (fun j e => by cases e; exact hm1)
  refine ⟨hgl.congr fun q => ?_, hm, fun d n => ?_, (hg7.block b (by have := hg6.size; omega) (by simpa using hbm)).trans ((hg6.block b hb1 (by simp)).trans h.bb), ?_⟩
  · constructor
    · rintro (⟨hq, d, hVd, hdq⟩ | ⟨hq, hkq⟩)
      · exact ⟨hq, d, (hV d).2 (.inl hVd), hdq⟩
      · exact ⟨hq, c, (hV c).2 (.inr rfl), hk.trans hkq⟩
    · rintro ⟨hq, d, hVd, hdq⟩
      rcases (hV d).1 hVd with hVd | rfl
      · exact .inl ⟨hq, d, hVd, hdq⟩
      · exact .inr ⟨hq, kid_below hcl hK hk hq hdq⟩
  · unfold upd
    by_cases hdc : d = c
    · subst hdc
      rw [if_pos rfl]
      constructor
      · intro e'
        cases e'
        exact ⟨(hV d).2 (.inr rfl), k, hK, hk, if_pos ⟨hK.lo, List.prefix_rfl⟩⟩
      · rintro ⟨_, q, hq, hdq, hn'⟩
        obtain rfl := Kid.un hcl hK hq hk hdq
        rw [if_pos ⟨hK.lo, List.prefix_rfl⟩] at hn'
        rw [hn']
    · rw [if_neg hdc, h.kf d n]
      have hz : ∀ q, Kid P p q → p ++ [d] <+: q → (if Zs P k q then nb2 q else nb q) = nb q := fun q hq hdq => if_neg fun hzz => hdc (snoc_un hdq (hk.trans hzz.2))
      constructor
      · rintro ⟨h1, q, hq, hdq, hn'⟩
        exact ⟨(hV d).2 (.inl h1), q, hq, hdq, (hz q hq hdq).trans hn'⟩
      · rintro ⟨h1, q, hq, hdq, hn'⟩
        rcases (hV d).1 h1 with h1 | h1
        · exact ⟨h1, q, hq, hdq, (hz q hq hdq).symm.trans hn'⟩
        · exact absurd h1 hdc
  · exact grown_new (grown_none h.gr hg6) hg7 hw
/-- All have come. -/
theorem Cst.done {w wr : World} {P : List K} {p : K} {f : UInt8 → Option Nat} {left : Lit → Bool} {nb mb nb0 : K → Nat} {lab : K → K} {e : K → Option ByteArray} {g : UInt8 → Option Nat} {b m n₁ : Nat}
    (h : Cst w wr P p f left nb mb lab e g b m n₁) (hp : p ∈ P) (hf : Kf P nb0 p f) (hl : ∀ c, left (kc c) = false) (hb : w.heap.size ≤ b ∧ w.heap.size ≤ m) (hb1 : b < n₁ ∧ m < n₁) :
    Sz w.heap.size wr P (Zs P p) (fset nb p b) (fset mb p m) lab e := by
  have hfs : ∀ {c q}, Kid P p q → p ++ [c] <+: q → (f c).isSome = true := fun {c q} hq hc => by
    rw [(hf c (nb0 q)).2 ⟨q, hq, hc, rfl⟩]; rfl
  have hV : ∀ {c q}, Kid P p q → p ++ [c] <+: q → ((f c).isSome && !left (kc c)) = true := fun {c q} hq hc => by rw [hfs hq hc, hl c]; rfl
  refine (h.sz.root Zv.ne h.bb h.km (fun c n => ?_) (fun q hq => ?_) hb hb1).congr fun q => ?_
  · rw [h.kf c n]
    constructor
    · rintro ⟨_, q, h1, h2, h3⟩; exact ⟨q, h1, h2, h3⟩
    · rintro ⟨q, h1, h2, h3⟩; exact ⟨hV h1 h2, q, h1, h2, h3⟩
  · obtain ⟨c, hc⟩ := hq.snoc
    exact ⟨hq.lo, c, hV hq hc, hc⟩
  · constructor
    · rintro (rfl | ⟨hq, c, _, hcq⟩)
      · exact ⟨hp, List.prefix_rfl⟩
      · exact ⟨hq, (List.prefix_append p [c]).trans hcq⟩
    · rintro ⟨hq, hpq⟩
      by_cases e' : q = p
      · exact .inl e'
      · obtain ⟨c, l, rfl⟩ := pre_strict hpq (Ne.symm e')
        obtain ⟨k, h1, h2, _⟩ := kid_ex hp _ (Nat.le_refl _) hq (snoc_pre p c l)
        exact .inr ⟨hq, c, hV h1 h2, snoc_pre p c l⟩
end Go.Proofs.Ytpcdmjalfabbmaa

/- node.copied: the walk. -/
namespace Go.Proofs.Ytpcdmjalfabbmaa
open Go.RowKit Go.IntWalk Go.Maps
set_option linter.unusedVariables false
set_option linter.unusedSimpArgs false
theorem lab_len {w : World} {P : List K} {nb mb : K → Nat} {lab : K → K} {e : K → Option ByteArray} (h : Tm w P nb mb lab e) {p : K} (hp : p ∈ P) : (lab p).length ≤ 1000000 := by
  by_cases e0 : p = []
  · subst e0; rw [h.rl]; simp
  · obtain ⟨a, ha⟩ := kid_up h.root _ (Nat.le_refl _) h.root hp List.nil_prefix (Ne.symm e0)
    have h1 := congrArg List.length (h.lb a p ha)
    have h2 := h.len p hp
    simp at h1
    omega
set_option maxRecDepth 100000 in
set_option maxHeartbeats 4000000 in
theorem copied_any : ∀ (n : Nat) (w : World) {P : List K} {nb mb : K → Nat} {lab : K → K} {e : K → Option ByteArray} (h : Tm w P nb mb lab e) {p : K} (hp : p ∈ P) (hn : 100001 - p.length ≤ n),
    Calls Try.prog 32 #[ptr (nb p)] w fun r w' => ∃ nb' mb', r = .returned (ptr (nb' p)) ∧ Sz w.heap.size w' P (Zs P p) nb' mb' lab e ∧ w.grownBy w' none
  | 0, w, P, nb, mb, lab, e, h, p, hp, hn => absurd hn (by have := h.len p hp; omega)
  | n + 1, w, P, nb, mb, lab, e, h, p, hp, hn => by
    have hll := lab_len h hp
    obtain ⟨f, hkm, hkf⟩ := h.km p hp
    have hnode := node_any w (lab p) hll
    have c0 := h.c0 hp
    have hT := Hid.mk h
    go_enter Try.func32, Try.ntmps32
    go_wp2_with fail
    refine hnode.mono ?_
    rintro r w1 ⟨b, m, rfl, hm0, hb0, hmm, hbb, hg1⟩
    have hT1 := h.keep hg1
    have o1 := hT1.c1 hp
    have o2 := hT1.c2 hp
    have o3 := hT1.c3 hp
    have hnl := hT1.nlt hp
    have hbl : b < w1.heap.size := (Array.getElem?_eq_some_iff.1 hbb).1
    have hml : m < w1.heap.size := (Array.getElem?_eq_some_iff.1 hmm).1
    have hnb : nb p ≠ b := by have := h.nlt hp; omega
    have hbm : b ≠ m := by rintro rfl; rw [hbb] at hmm; cases hmm
    have b0 : w1.cell? ⟨b, 0, none⟩ = some (.string (bt (lab p))) := by simp [World.cell?, hbb]
    have b1 : w1.cell? ⟨b, 1, none⟩ = some (.string (bt [])) := by simp [World.cell?, hbb]
    have b2 : w1.cell? ⟨b, 2, none⟩ = some (.bool false) := by simp [World.cell?, hbb]
    have b3 : w1.cell? ⟨b, 3, none⟩ = some (.map (some m)) := by simp [World.cell?, hbb]
    have fb : ∀ i, w1.frozen? ⟨b, i, none⟩ = false := fun i => by simp [World.frozen?, hbb]
    have hbH := Hid.mk hbb
    have hmH := Hid.mk hmm
    have hgH := Hid.mk hg1
    have hkH := Hid.mk hkm
    have hT1H := Hid.mk hT1
    obtain ⟨ov, hov⟩ : ∃ ov, vOf (e p) = ov := ⟨_, rfl⟩
    obtain ⟨oh, hoh⟩ : ∃ oh, (e p).isSome = oh := ⟨_, rfl⟩
    rw [hov] at o1
    rw [hoh] at o2
    replace hov := Hid.mk hov
    replace hoh := Hid.mk hoh
    clear hbb hmm hg1 hkm hT1 h hnode c0
    go_wp2_with fail
    go_region
    have g2 : w1.grownBy ((w1.setCell ⟨b, 1, none⟩ (Value.string ov)).setCell ⟨b, 2, none⟩ (Value.bool oh)).drew (some b) := ((grown_setCell w1 ⟨b, 1, none⟩ (Value.string ov)).trans (grown_setCell _ ⟨b, 2, none⟩ (Value.bool oh))).andThen (grown_drew _) (by simp)
    have bb2 : ((w1.setCell ⟨b, 1, none⟩ (Value.string ov)).setCell ⟨b, 2, none⟩ (Value.bool oh)).drew.heap[b]? = some (nobj (lab p) ov oh m) := heap_set (heap_set hbH.out 1 (.string ov)) 2 (.bool oh)
    generalize ((w1.setCell ⟨b, 1, none⟩ (Value.string ov)).setCell ⟨b, 2, none⟩ (Value.bool oh)).drew = w2 at *
    have hgw2 : w.grownBy w2 none := grown_new hgH.out g2 hb0
    have o3' : w2.cell? ⟨nb p, 3, none⟩ = some (.map (some (mb p))) := hT.out.keep hgw2 |>.c3 hp
    have hmm2 : w2.heap[m]? = some (.map #[] 0) := (g2.block m hml (by simpa using hbm.symm)).trans hmH.out
    have hKm0 := Km.made hmm2
    obtain ⟨fo, hkm2, hkf2⟩ := (hT.out.keep hgw2).km p hp
    have hfo : fo = f := by
      funext c
      cases h1 : fo c with
      | some x => exact ((hkf c x).2 ((hkf2 c x).1 h1)).symm
      | none =>
        cases h2 : f c with
        | none => rfl
        | some x => rw [(hkf2 c x).2 ((hkf c x).1 h2)] at h1; cases h1
    subst hfo
    obtain ⟨D, hown, hD1, hD2, _⟩ := hkm2.own
    have hs2 := g2.size
    clear o1 o2 o3 b0 b1 b2 b3 fb g2 hkm2 hkf2
    go_wp2_with (first
      | (at_range; refine wpList_range_own _ rfl _ 62 rfl 5 56 keyed5 Try.underlying62 pElem (mb p) (Maps.size D) D rfl hown ?_; intro w3 hrg0 hg0 hs0)
      | fail)
    have hn1 : w3.heap.size ≤ w3.heap.size := Nat.le_refl _
    have hno : ∀ q, ¬ Zv P p (fun c => (fo c).isSome && !(Maps.has D (kc c))) q := fun q ⟨_, c, hc, _⟩ => by
      simp only [hD1] at hc
      cases h1 : (fo c).isSome <;> simp [h1] at hc
    have hC0 : Hid (Cst w w3 P p fo (Maps.has D) nb mb lab e (fun _ => none) b m w3.heap.size) := ⟨⟨⟨fun q hq => absurd hq (hno q), fun q hq => absurd hq (hno q), fun q hq => absurd hq (hno q), fun q r hq => absurd hq (hno q), fun q r hq => absurd hq (hno q), fun q r hq => absurd hq (hno q)⟩, hKm0.kept (hg0.block m (by omega) (by simp)), fun c n => by
      constructor
      · intro h1; cases h1
      · rintro ⟨h1, _⟩
        rw [hD1] at h1
        cases h2 : (fo c).isSome <;> simp [h2] at h1, (hg0.block b (by omega) (by simp)).trans (by rw [hov.out, hoh.out]; exact bb2), grown_none hgw2 hg0⟩⟩
    have hrH := Hid.mk hrg0
    have hnH := Hid.mk hn1
    have hz3 := hs0
    replace hz3 := Hid.mk hz3
    replace hgw2 := Hid.mk hgw2
    clear hrg0 hg0 hs0 hown hKm0 hmm2 bb2 o3' hn1 hno
    go_frame
    go_loopw [] (fun wr => ∃ (left : Lit → Bool) (cnt : Nat) (nb' mb' : K → Nat) (g : UInt8 → Option Nat), Hid (wr.ranges Try.prog 5 pElem (mb p) w2.heap.size (Maps.size D) D left cnt) ∧ Hid (Cst w wr P p fo left nb' mb' lab e g b m w3.heap.size) ∧ Hid (w3.heap.size ≤ wr.heap.size)) (fun wr => wr.rangeLeft (mb p) w2.heap.size)
    case atStart => exact ⟨_, _, nb, mb, _, hrH, hC0, hnH⟩
    case round =>
      clear hrH hC0 hnH
      obtain ⟨left, cnt, nb', mb', g, hrg, hC, hwr⟩ := hrel
      go_wp2_with (first
        | (at_next; refine wpList_next_ranges _ rfl _ rfl 5 keyed5 pElem (fun d : UInt8 => Value.int .u8 d.toNat) (fun a : Option Addr => Value.pointer a) (fun key kl hk => by obtain ⟨x, hx, _⟩ := inv5 hk; exact ⟨x, hx⟩) (fun v y hv => pElem_shape hv) (mb p) w2.heap.size (Maps.size D) _ _ _ rfl hrg.out ?_ ?_)
        | fail)
      · intro hc0 hl0
        go_wp2
        go_ret
        exact ⟨fset nb' p b, fset mb' p m, by simp only [fset_same]; rfl, hC.out.done hp hkf (fun c => hl0 _) ⟨hb0, hm0⟩ ⟨by have := hz3.out; omega, by have := hz3.out; omega⟩, hC.out.gr⟩
      · intro x a kl yd yp wn cnt2 hkey hlk hv hat hrg2 hlt hgn hsn hen
        obtain ⟨x', ex, rfl⟩ := inv5 hkey
        have hxx : x = x' := by
          simp only [Value.int.injEq, true_and] at ex
          exact UInt8.toNat_inj.1 (by omega)
        subst hxx
        have hhas : Maps.has D (kc x) = true := has_true_of_atKey hat
        rw [hD1] at hhas
        obtain ⟨nq, hnq⟩ := Option.isSome_iff_exists.1 hhas
        have hyd := pElem_inv hv
        simp only [Prod.mk.injEq] at hyd
        have h3 := hD2 x nq hnq (.held (.pointer none))
        rw [hat, hyd.1] at h3
        have ha : a = some ⟨nq, 0, none⟩ := by simpa using h3
        subst ha
        obtain ⟨k, hKd, hxk, rfl⟩ := (hkf x nq).1 hnq
        have hr0 : w2.heap.size < w3.heap.size := by have := hz3.out; omega
        have hgs := hgw2.out.size
        have hCn := Hid.mk (hC.out.keep hgn hr0 (by omega) (by omega) (by omega))
        have hTn := hT.out.keep (grown_none hCn.out.gr (grown_drew _))
        have hb3 : wn.cell? ⟨b, 3, none⟩ = some (.map (some m)) := by simp [World.cell?, hCn.out.bb]
        have hlen := hT.out.len k hKd.lo
        have hlt2 := pre_len_lt hKd.pre hKd.ne
        replace hrg2 := Hid.mk hrg2
        replace hlt := Hid.mk hlt
        replace hhas := Hid.mk hhas
        replace hlk := Hid.mk hlk
        replace hgn := Hid.mk hgn
        replace hsn := Hid.mk hsn
        clear hat hv hkey hyd h3 hnq ex
        go_wp2_with fail
        refine wp_region_held_drew (S := fun w' => w'.cell? ⟨b, 3, none⟩ = some (.map (some m))) (by kernel_rfl) (by (try dsimp only); exact hb3) (fun hHeld => ?_)
        refine wpAnyH_take (i := 0) (v := ?_) rfl (by kernel_rfl) (by kernel_rfl) (by kernel_rfl) (fun _ _ _ h => h) (Or.inl ⟨by rfl, ?_⟩) (by assumption) ?_
        rotate_left
        · (intro w hSw; (try dsimp only at hSw); go_simp; try with_reducible rfl)
        try simp only [List.getElem_toArray, List.getElem_cons_zero, List.getElem_cons_succ, Act.put, List.setIfInBounds_toArray, List.set_cons_zero, List.set_cons_succ]
        refine wpAnyH_take (i := 1) (v := ?_) rfl (by kernel_rfl) (by kernel_rfl) (by kernel_rfl) (fun _ _ _ h => h) (Or.inl ⟨by rfl, ?_⟩) (by assumption) ?_
        rotate_left
        · (intro w hSw; (try dsimp only at hSw); go_simp; try with_reducible rfl)
        try simp only [List.getElem_toArray, List.getElem_cons_zero, List.getElem_cons_succ, Act.put, List.setIfInBounds_toArray, List.set_cons_zero, List.set_cons_succ]
        refine wpAnyH_take (i := 2) (v := ?_) rfl (by kernel_rfl) (by kernel_rfl) (by kernel_rfl) (fun _ _ _ h => h) (Or.inl ⟨by rfl, ?_⟩) (by assumption) ?_
        rotate_left
        · (intro w hSw; (try dsimp only at hSw); go_simp; try with_reducible rfl)
        try simp only [List.getElem_toArray, List.getElem_cons_zero, List.getElem_cons_succ, Act.put, List.setIfInBounds_toArray, List.set_cons_zero, List.set_cons_succ]
        refine wpAnyH_take (i := 3) (v := ?_) rfl (by kernel_rfl) (by kernel_rfl) (by kernel_rfl) (fun _ _ _ h => h) (Or.inl ⟨by rfl, ?_⟩) (by assumption) ?_
        rotate_left
        · (intro w hSw; (try dsimp only at hSw); go_simp; try with_reducible rfl)
        try simp only [List.getElem_toArray, List.getElem_cons_zero, List.getElem_cons_succ, Act.put, List.setIfInBounds_toArray, List.set_cons_zero, List.set_cons_succ]
        refine wpAnyH_take (i := 4) (v := ?_) rfl (by kernel_rfl) (by kernel_rfl) (by kernel_rfl) (fun _ _ _ h => h) (Or.inl ⟨by rfl, ?_⟩) (by assumption) ?_
        rotate_left
        · (intro w hSw; (try dsimp only at hSw); go_simp; try with_reducible rfl)
        try simp only [List.getElem_toArray, List.getElem_cons_zero, List.getElem_cons_succ, Act.put, List.setIfInBounds_toArray, List.set_cons_zero, List.set_cons_succ]
        refine wpAnyH_take (i := 5) (v := ?_) rfl (by kernel_rfl) (by kernel_rfl) (by kernel_rfl) (fun _ _ _ h => h) (Or.inl ⟨by rfl, ?_⟩) (by assumption) ?_
        rotate_left
        · (intro w hSw; (try dsimp only at hSw); go_simp; try with_reducible rfl)
        try simp only [List.getElem_toArray, List.getElem_cons_zero, List.getElem_cons_succ, Act.put, List.setIfInBounds_toArray, List.set_cons_zero, List.set_cons_succ]
        refine wpAnyH_ready (rs := [6]) (by kernel_rfl) (by simp) ?_
        refine AllReadyH.cons rfl (fun K hK => ?_) AllReadyH.nil
        go_simp
        refine (copied_any n _ hTn hKd.lo (by omega)).mono ?_
        rintro r w6 ⟨nb2, mb2, rfl, hS6, hg6⟩
        obtain ⟨w7, hrun7, hm7, hg7⟩ := (hCn.out.km.kept ((hg6.block m (by have := hCn.out.km.lt; exact this) (by simp)))).store x (nb2 k)
        go_wp2_with fail
        refine hK.out _ _ ?_ (fun hHeld => ?_)
        · ((try dsimp only); (refine grown_cell hg6 ?_; exact hHeld))
        clear hK K
        try simp only [List.getElem_toArray, List.getElem_cons_zero, List.getElem_cons_succ, Act.put, List.setIfInBounds_toArray, List.set_cons_zero, List.set_cons_succ]
        refine wpAnyH_ready (rs := [7]) (by kernel_rfl) (by simp) ?_
        refine AllReadyH.cons rfl (fun K hK => ?_) AllReadyH.nil
        go_simp
        refine hK.out _ _ ?_ (fun hHeld => ?_)
        · ((try dsimp only); (refine hg7.cell hHeld ?_; simpa using hbm))
        clear hK K
        try simp only [List.getElem_toArray, List.getElem_cons_zero, List.getElem_cons_succ, Act.put, List.setIfInBounds_toArray, List.set_cons_zero, List.set_cons_succ]
        refine wpAnyH_done (by kernel_rfl) ?_ _
        go_wp2_with fail
        have hgn6 := grown_none (grown_drew wn) hg6
        have hbw := (Array.getElem?_eq_some_iff.1 hCn.out.bb).1
        have hmp := hT.out.mlt hp
        have hrgk := ((hrg2.out.kept (grown_drew wn) (by simp) (by simp)).kept hg6 (by simp) (by simp)).kept hg7 (by simp; omega) (by simp; omega)
        have hwn : w3.heap.size ≤ wn.heap.size := by have := hwr.out; have := hsn.out; omega
        have hC7 := hCn.out.step hT.out.cl hKd hxk hhas.out hlk.out hS6 hgn6 hwn (Nat.le_refl _) hm7 hg7 hbm hbw (by omega) hm0
        have h67 := hg7.size
        have hn67 := hgn6.size
        go_roundw
        case rel => exact ⟨_, cnt2, _, _, _, ⟨hrgk⟩, ⟨hC7⟩, ⟨by omega⟩⟩
        case measure => rw [hrgk.left_eq, hrg.out.left_eq]; exact hlt.out
end Go.Proofs.Ytpcdmjalfabbmaa
