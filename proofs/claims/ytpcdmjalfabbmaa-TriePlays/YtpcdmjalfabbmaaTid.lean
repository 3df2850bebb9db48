/- What need not be there any more is taken away: Trie.tidy. -/
import Derived.Test.YtpcdmjalfabbmaaGet
import Derived.LaidEqlPtr
namespace Go.Proofs.Ytpcdmjalfabbmaa
open Go.RowKit Go.IntWalk Go.Maps
set_option linter.unusedVariables false
/-- Two kids. -/
def Two (P : List K) (p : K) : Prop := ∃ q r, Kid P p q ∧ Kid P p r ∧ q ≠ r
/-- Half way. -/
structure Mid (w wx : World) (tb : Nat) (P : List K) (nb mb : K → Nat) (e : K → Option ByteArray) (n : Nat) (P1 : List K) (nb1 mb1 : K → Nat) (lab1 : K → K) (x : K) : Prop where
  tw : Tw wx tb P1 nb1 mb1 lab1 e n
  xP : x ∈ P1
  tg : ∀ p ∈ P1, p ≠ [] → p ≠ x → (e p).isSome = true ∨ Two P1 p
  xx : x = [] ∨ (e x).isSome = true ∨ ∃ q, Kid P1 x q
  kp : Kp (Ft tb P nb mb) w wx
  fp : ∀ j, Fp P1 nb1 mb1 j → Fp P nb mb j
/-- Done. -/
structure Tdd (w w' : World) (tb : Nat) (P : List K) (nb mb : K → Nat) (e : K → Option ByteArray) (n : Nat) (P1 : List K) (nb1 mb1 : K → Nat) (lab1 : K → K) : Prop where
  tw : Tw w' tb P1 nb1 mb1 lab1 e n
  tg : Tg P1 fun k => (e k).isSome = true
  kp : Kp (Ft tb P nb mb) w w'
  fp : ∀ j, Fp P1 nb1 mb1 j → Fp P nb mb j
/-- How many kids a place has. -/
theorem Tm.cnt {w : World} {P : List K} {nb mb : K → Nat} {lab : K → K} {e : K → Option ByteArray} (h : Tm w P nb mb lab e) {p : K} (hp : p ∈ P) (ty : TypeId) : ∃ m : Nat, (Builtin.len_ #[62] ty #[.map (some (mb p))]).run Try.prog w = .ok (.int .i64 m) w ∧ (m = 0 ↔ ∀ q, ¬ Kid P p q) ∧ (m = 1 ↔ ∃ q, Kid P p q ∧ ∀ r, Kid P p r → r = q) := by
  obtain ⟨f, h1, h2⟩ := h.km p hp
  obtain ⟨m, hm, h0, h3⟩ := h1.len ty
  refine ⟨m, hm, h0.trans ⟨fun hn q hq => ?_, fun hn c => ?_⟩, h3.trans ⟨?_, ?_⟩⟩
  · obtain ⟨c, hc⟩ := hq.snoc
    exact h2.none.1 (hn c) q hq hc
  · exact h2.none.2 fun q hq => absurd hq (hn q)
  · rintro ⟨c, hc⟩
    obtain ⟨b, hb⟩ := Option.isSome_iff_exists.1 ((hc c).2 rfl)
    obtain ⟨q, hq, hcq, _⟩ := (h2 c b).1 hb
    refine ⟨q, hq, fun r hr => ?_⟩
    obtain ⟨d, hd⟩ := hr.snoc
    have : f d = some (nb r) := (h2 d _).2 ⟨r, hr, hd, rfl⟩
    have hdc := (hc d).1 (by rw [this]; rfl)
    subst hdc
    exact hr.un h.cl hq hd hcq
  · rintro ⟨q, hq, h1⟩
    obtain ⟨c, hc⟩ := hq.snoc
    refine ⟨c, fun d => ⟨fun hd => ?_, ?_⟩⟩
    · obtain ⟨b, hb⟩ := Option.isSome_iff_exists.1 hd
      obtain ⟨r, hr, hdr, _⟩ := (h2 d b).1 hb
      rw [h1 r hr] at hdr
      exact snoc_inj hdr hc
    · rintro rfl
      rw [(h2 d (nb q)).2 ⟨q, hq, hc, rfl⟩]
      rfl
theorem info64 : ∃ j, Try.prog.info? 64 = some j ∧ j.size ≠ 0 := by
  have h : (Try.prog.info? 64).map (fun i => i.size) = some 4 := by kernel_rfl
  cases e : Try.prog.info? 64 with
  | none => rw [e] at h; cases h
  | some j =>
    rw [e] at h
    exact ⟨j, rfl, by simp at h; omega⟩
theorem neq_same (w : World) (a : Nat) : (binOp .neq 56 (ptr a) (ptr a)).run Try.prog w = .ok (.bool false) w := by
  obtain ⟨j, hj, _⟩ := info64
  have h : ∀ d : Nat, (Op.equalIn (d + 1) 56 (ptr a) (ptr a)).run Try.prog w = .ok true w := fun d => by
    simp [Op.equalIn, run_underlying Try.underlying56, sizeOf, typeInfo, hj, run_sameAddr_same]
  simp only [binOp]
  simp [Op.equal, Op.maxDepth, h 9999]
theorem neq_other (w : World) {a b : Nat} {ca cb : Array Value} {ta tb : TypeId} (hne : a ≠ b) (ha : w.heap[a]? = some (.cells ca ta (0, 0))) (hb : w.heap[b]? = some (.cells cb tb (0, 0))) : (binOp .neq 56 (ptr a) (ptr b)).run Try.prog w = .ok (.bool true) w := by
  obtain ⟨j, hj, hs⟩ := info64
  have h : ∀ d : Nat, (Op.equalIn (d + 1) 56 (ptr a) (ptr b)).run Try.prog w = .ok false w := fun d => by
    simp [Op.equalIn, run_underlying Try.underlying56, sizeOf, typeInfo, hj, hs, run_sameAddr_other w (a := ⟨a, 0, none⟩) (b := ⟨b, 0, none⟩) (fun e' => hne (by cases e'; rfl)) ha hb]
  simp only [binOp]
  simp [Op.equal, Op.maxDepth, h 9999]
theorem Tm.neq0 {w : World} {P : List K} {nb mb : K → Nat} {lab : K → K} {e : K → Option ByteArray} (h : Tm w P nb mb lab e) {p : K} (hp : p ∈ P) {b : Bool} (hb : Hid (decide (p ≠ []) = b)) : (binOp .neq 56 (ptr (nb p)) (ptr (nb []))).run Try.prog w = .ok (.bool b) w := by
  by_cases e0 : p = []
  · subst e0
    have : b = false := by rw [← hb.out]; simp
    rw [this]
    exact neq_same w _
  · have : b = true := by rw [← hb.out]; simpa using e0
    rw [this]
    exact neq_other w (fun e' => e0 (h.nbi p hp [] h.root e')) (h.blk p hp) (h.blk [] h.root)
section
variable {w wx w' : World} {tb : Nat} {P P1 : List K} {nb mb nb1 mb1 : K → Nat} {lab lab1 : K → K} {e : K → Option ByteArray} {n : Nat} {x : K}
/-- Nothing more is to be done. -/
theorem Mid.fin (h : Mid w wx tb P nb mb e n P1 nb1 mb1 lab1 x) (hx : x = [] ∨ (e x).isSome = true ∨ ¬ ∃ q, Kid P1 x q ∧ ∀ r, Kid P1 x r → r = q) : Tdd w wx tb P nb mb e n P1 nb1 mb1 lab1 := by
  refine ⟨h.tw, fun p hp hne => ?_, h.kp, h.fp⟩
  by_cases e1 : p = x
  · subst e1
    rcases hx with hx | hx | hx
    · exact absurd hx hne
    · exact .inl hx
    · rcases h.xx with h1 | h1 | ⟨q, hq⟩
      · exact absurd h1 hne
      · exact .inl h1
      · refine .inr ?_
        have : ∃ r, Kid P1 p r ∧ r ≠ q := Classical.byContradiction fun hc => hx ⟨q, hq, fun r hr => Classical.byContradiction fun hrq => hc ⟨r, hr, hrq⟩⟩
        obtain ⟨r, hr, hrq⟩ := this
        exact ⟨q, r, hq, hr, fun e' => hrq e'.symm⟩
  · exact h.tg p hp hne e1
/-- The place and its only kid become one. -/
theorem Mid.join (h : Mid w wx tb P nb mb e n P1 nb1 mb1 lab1 x) (hx : x ≠ []) (hex : e x = none) {q : K} (hq : Kid P1 x q) (h1 : ∀ r, Kid P1 x r → r = q) (hb : w'.heap[nb1 x]? = some (nobj (lab1 x ++ lab1 q) (vOf (e q)) (e q).isSome (mb1 q))) (hg : wx.grownBy w' (some (nb1 x))) (hg2 : ∀ v, (w'.setCell ⟨tb, 2, none⟩ v).heap[tb]? = some (.cells #[ptr (nb1 []), .int .i64 n, v] 59 (0, 0))) :
    ∃ v, v = Value.int .i64 ((P1.length : Int) - 1) ∧ Tdd w (w'.setCell ⟨tb, 2, none⟩ v) tb P nb mb e n (rmv x P1) (fset nb1 q (nb1 x)) mb1 (fset lab1 q (lab1 x ++ lab1 q)) := by
  refine ⟨_, rfl, ?_⟩
  have hxP := hq.up
  have htx : tb ≠ nb1 x := fun e' => h.tw.nof ⟨x, hxP, .inl e'⟩
  have gs := grown_setCell w' ⟨tb, 2, none⟩ (Value.int .i64 ((P1.length : Int) - 1))
  have s1 := hg.size
  have old : ∀ j, Fp P1 nb1 mb1 j → j ≠ nb1 x → (w'.setCell ⟨tb, 2, none⟩ (Value.int .i64 ((P1.length : Int) - 1))).heap[j]? = wx.heap[j]? := fun j hj hne =>
    (gs.block j (by have := h.tw.tm.flt hj; omega) (by simp; rintro rfl; exact h.tw.nof hj)).trans (hg.block j (h.tw.tm.flt hj) (by simpa using hne))
  have hT := h.tw.tm.join (w' := w'.setCell ⟨tb, 2, none⟩ (Value.int .i64 ((P1.length : Int) - 1))) hx hq h1 hex ((gs.block (nb1 x) (Array.getElem?_eq_some_iff.1 hb).1 (by simpa using htx.symm)).trans hb) old
  have hkid := fun {a b : K} => one_kid (a := a) (b := b) h.tw.tm.cl hq h1
  refine ⟨⟨hT, ?_⟩, fun p hp hne => ?_, ?_, ?_⟩
  · have hl := rmv_len h.tw.tm.nd hxP
    have e1 : (((rmv x P1).length : Nat) : Int) = (P1.length : Int) - 1 := by omega
    rw [e1, hg2 _, fset_other _ _ hq.ne0.symm]
  · obtain ⟨hp1, hpx⟩ := mem_rmv.1 hp
    rcases h.tg p hp1 hne hpx with h2 | ⟨a, b, ha, hb2, hab⟩
    · exact .inl h2
    · refine .inr ?_
      have key : ∀ c, Kid P1 p c → ∃ c', Kid (rmv x P1) p c' ∧ ((c = x ∧ c' = q) ∨ (c ≠ x ∧ c' = c)) := fun c hc => by
        by_cases ec : c = x
        · subst ec
          exact ⟨q, hkid.2 (.inr ⟨hc, rfl⟩), .inl ⟨rfl, rfl⟩⟩
        · exact ⟨c, hkid.2 (.inl ⟨hc, hpx, ec⟩), .inr ⟨ec, rfl⟩⟩
      have nq : ∀ c, Kid P1 p c → c ≠ q := fun c hc e' => hpx (Kid.one hc (e' ▸ hq))
      obtain ⟨a', ha', ka⟩ := key a ha
      obtain ⟨b', hb', kb⟩ := key b hb2
      refine ⟨a', b', ha', hb', ?_⟩
      rcases ka with ⟨rfl, rfl⟩ | ⟨_, rfl⟩ <;> rcases kb with ⟨rfl, rfl⟩ | ⟨_, rfl⟩
      · exact absurd rfl hab
      · exact fun e' => nq _ hb2 e'.symm
      · exact nq _ ha
      · exact hab
  · refine (h.kp.grown hg ?_).grown gs ?_
    · intro j hj; cases hj
      exact .inl (.inr (h.fp _ ⟨x, hxP, .inl rfl⟩))
    · intro j hj; cases hj
      exact .inl (.inl rfl)
  · rintro j ⟨p, hp, hj⟩
    obtain ⟨hp1, hpx⟩ := mem_rmv.1 hp
    by_cases e1 : p = q
    · subst e1
      rw [fset_same] at hj
      rcases hj with rfl | rfl
      · exact h.fp _ ⟨x, hxP, .inl rfl⟩
      · exact h.fp _ ⟨p, hp1, .inr rfl⟩
    · rw [fset_other _ _ e1] at hj
      exact h.fp _ ⟨p, hp1, hj⟩
end
set_option maxRecDepth 100000 in
set_option maxHeartbeats 2000000 in
theorem tidy_any (w : World) {tb : Nat} {P : List K} {nb mb : K → Nat} {lab : K → K} {e : K → Option ByteArray} {n : Nat} (h : Tw w tb P nb mb lab e n) {k : K} {ab : Value} (hk : k ∈ P) (hek : e k = none) (hab : (k = [] ∧ ab = .pointer none) ∨ ∃ u, Kid P u k ∧ ab = ptr (nb u))
    (htg : ∀ p ∈ P, p ≠ [] → p ≠ k → (e p).isSome = true ∨ Two P p) (hn : P.length ≤ 1000000) :
    Calls Try.prog 31 #[ptr tb, ptr (nb k), ab] w fun r w' => r = .returned (.tuple #[]) ∧ ∃ P1 nb1 mb1 lab1, Tdd w w' tb P nb mb e n P1 nb1 mb1 lab1 := by
  have c0 := h.c0
  go_enter Try.func31, Try.ntmps31
  have hb0 : ∃ b0, Hid (decide (k ≠ []) = b0) := ⟨_, ⟨rfl⟩⟩
  obtain ⟨b0, hb0⟩ := hb0
  have hneq := h.tm.neq0 hk hb0
  obtain ⟨m, hm, hm0, hm1⟩ := h.tm.cnt hk 3
  have c3 := h.tm.c3 hk
  obtain ⟨z, hz⟩ : ∃ z, Hid (((m : Int) == 0) = z) := ⟨_, ⟨rfl⟩⟩
  have hz' := hz.out
  replace hm0 : Hid _ := ⟨hm0⟩
  clear hm1
  replace htg : Hid _ := ⟨htg⟩
  replace hab : Hid _ := ⟨hab⟩
  cases b0 with
  | false =>
    have M : Mid w w tb P nb mb e n P nb mb lab k := ⟨h, hk, htg.out, .inl (by have := hb0.out; simpa using this), Kp.refl _ _, fun j hj => hj⟩
    go_upto_region 4 with fail
    clear hneq hm c3 hz' c0
    have tw := M.tw
    have xP := M.xP
    have hP1 : ∃ b1, Hid (decide (k ≠ []) = b1) := ⟨_, ⟨rfl⟩⟩
    obtain ⟨b1, hb1⟩ := hP1
    have hneq2 := tw.tm.neq0 xP hb1
    have d0 := tw.c0
    have d2 := tw.c2
    have df := tw.fz
    have e2 := tw.tm.c2 xP
    have e3 := tw.tm.c3 xP
    obtain ⟨m2, hm2, _, hmm⟩ := tw.tm.cnt xP 3
    obtain ⟨o, ho⟩ : ∃ o, Hid ((e k).isSome = o) := ⟨_, ⟨rfl⟩⟩
    rw [ho.out] at e2
    obtain ⟨z2, hz2⟩ : ∃ z2, Hid (((m2 : Int) == 1) = z2) := ⟨_, ⟨rfl⟩⟩
    have hz2' := hz2.out
    replace hmm : Hid _ := ⟨hmm⟩
    replace M : Hid _ := ⟨M⟩
    replace tw : Hid _ := ⟨tw⟩
    cases b1 with
    | false =>
      go_wp2
      go_end0
      exact ⟨rfl, _, _, _, _, M.out.fin (.inl (by have := hb1.out; simpa using this))⟩
    | true =>
      cases o with
      | true =>
        go_wp2
        go_end0
        exact ⟨rfl, _, _, _, _, M.out.fin (.inr (.inl ho.out))⟩
      | false =>
        cases z2 with
        | false =>
          go_wp2
          go_end0
          exact ⟨rfl, _, _, _, _, M.out.fin (.inr (.inr fun hc => by
            have e5 := hmm.out.2 hc
            have := hz2.out
            rw [e5] at this
            simp at this))⟩
        | true =>
          obtain ⟨q, hq, h1q⟩ := hmm.out.1 (by have := hz2.out; simp at this; omega)
          obtain ⟨f, hkm, hf⟩ := tw.out.tm.km _ xP
          obtain ⟨c, hcq⟩ := hq.snoc
          have hfc := (hf c _).2 ⟨q, hq, hcq, rfl⟩
          have h1f : ∀ d, (f d).isSome = true ↔ d = c := fun d => by
            constructor
            · intro hd
              obtain ⟨b, hb⟩ := Option.isSome_iff_exists.1 hd
              obtain ⟨r, hr, hdr, _⟩ := (hf d b).1 hb
              rw [h1q r hr] at hdr
              exact snoc_inj hdr hcq
            · rintro rfl
              rw [hfc]; rfl
          have bx := tw.out.tm.blk _ xP
          have bq := tw.out.tm.blk _ hq.lo
          have hqx : nb q ≠ nb k := fun e' => hq.ne (tw.out.tm.nbi q hq.lo _ xP e').symm
          have hll : (lab k).length + (lab q).length ≤ 1000000 := by
            have a1 := tw.out.tm.lb _ q hq
            have a2 := congrArg List.length a1
            have a3 := tw.out.tm.len q hq.lo
            have a4 := tw.out.tm.len _ xP
            have hxn : k ≠ [] := by have := hb1.out; simpa using this
            obtain ⟨u2, hu2⟩ := kid_up tw.out.tm.root _ (Nat.le_refl _) tw.out.tm.root xP List.nil_prefix (Ne.symm hxn)
            have a5 := congrArg List.length (tw.out.tm.lb u2 _ hu2)
            simp at a2 a5
            omega
          have hab2 := absorb_any w (nb k) (nb q) _ _ _ _ _ _ _ _ hll bx bq hqx hkm hfc h1f
          have htx : tb ≠ nb k := fun e' => tw.out.nof ⟨_, xP, .inl e'⟩
          have hxne : Hid (k ≠ []) := ⟨by have := hb1.out; simpa using this⟩
          have hexn : Hid (e k = none) := ⟨by have := ho.out; simpa using this⟩
          replace hfc : Hid _ := ⟨hfc⟩
          replace h1f : Hid _ := ⟨h1f⟩
          replace bx : Hid _ := ⟨bx⟩
          replace bq : Hid _ := ⟨bq⟩
          replace h1q : Hid _ := ⟨h1q⟩
          go_wp2_with fail
          refine hab2.mono ?_
          rintro r w8 ⟨rfl, hb8, hg8⟩
          have ht8 := (hg8.block tb tw.out.lt (by simpa using htx)).trans tw.out.tb
          have q2 : w8.cell? ⟨tb, 2, none⟩ = some (.int .i64 P.length) := by simp only [World.cell?, ht8]; rfl
          have qf : ∀ i, w8.frozen? ⟨tb, i, none⟩ = false := fun i => by simp [World.frozen?, ht8]
          clear hab2
          obtain ⟨v8, hv8, hfin⟩ := M.out.join hxne.out hexn.out hq h1q.out hb8 hg8 (fun v => heap_set ht8 2 v)
          subst hv8
          replace hfin : Hid _ := ⟨hfin⟩
          replace hb8 : Hid _ := ⟨hb8⟩
          replace hg8 : Hid _ := ⟨hg8⟩
          go_wp2
          go_end0
          exact ⟨rfl, _, _, _, _, hfin.out⟩
  | true =>
    cases z with
    | false =>
      have M : Mid w w tb P nb mb e n P nb mb lab k := ⟨h, hk, htg.out, .inr (.inr (by
        refine Classical.byContradiction fun hc => ?_
        have e5 := hm0.out.2 fun q hq => hc ⟨q, hq⟩
        have := hz.out
        rw [e5] at this
        simp at this)), Kp.refl _ _, fun j hj => hj⟩
      go_upto_region 4 with fail
      clear hneq hm c3 hz' c0
      have tw := M.tw
      have xP := M.xP
      have hP1 : ∃ b1, Hid (decide (k ≠ []) = b1) := ⟨_, ⟨rfl⟩⟩
      obtain ⟨b1, hb1⟩ := hP1
      have hneq2 := tw.tm.neq0 xP hb1
      have d0 := tw.c0
      have d2 := tw.c2
      have df := tw.fz
      have e2 := tw.tm.c2 xP
      have e3 := tw.tm.c3 xP
      obtain ⟨m2, hm2, _, hmm⟩ := tw.tm.cnt xP 3
      obtain ⟨o, ho⟩ : ∃ o, Hid ((e k).isSome = o) := ⟨_, ⟨rfl⟩⟩
      rw [ho.out] at e2
      obtain ⟨z2, hz2⟩ : ∃ z2, Hid (((m2 : Int) == 1) = z2) := ⟨_, ⟨rfl⟩⟩
      have hz2' := hz2.out
      replace hmm : Hid _ := ⟨hmm⟩
      replace M : Hid _ := ⟨M⟩
      replace tw : Hid _ := ⟨tw⟩
      cases b1 with
      | false =>
        go_wp2
        go_end0
        exact ⟨rfl, _, _, _, _, M.out.fin (.inl (by have := hb1.out; simpa using this))⟩
      | true =>
        cases o with
        | true =>
          go_wp2
          go_end0
          exact ⟨rfl, _, _, _, _, M.out.fin (.inr (.inl ho.out))⟩
        | false =>
          cases z2 with
          | false =>
            go_wp2
            go_end0
            exact ⟨rfl, _, _, _, _, M.out.fin (.inr (.inr fun hc => by
              have e5 := hmm.out.2 hc
              have := hz2.out
              rw [e5] at this
              simp at this))⟩
          | true =>
            obtain ⟨q, hq, h1q⟩ := hmm.out.1 (by have := hz2.out; simp at this; omega)
            obtain ⟨f, hkm, hf⟩ := tw.out.tm.km _ xP
            obtain ⟨c, hcq⟩ := hq.snoc
            have hfc := (hf c _).2 ⟨q, hq, hcq, rfl⟩
            have h1f : ∀ d, (f d).isSome = true ↔ d = c := fun d => by
              constructor
              · intro hd
                obtain ⟨b, hb⟩ := Option.isSome_iff_exists.1 hd
                obtain ⟨r, hr, hdr, _⟩ := (hf d b).1 hb
                rw [h1q r hr] at hdr
                exact snoc_inj hdr hcq
              · rintro rfl
                rw [hfc]; rfl
            have bx := tw.out.tm.blk _ xP
            have bq := tw.out.tm.blk _ hq.lo
            have hqx : nb q ≠ nb k := fun e' => hq.ne (tw.out.tm.nbi q hq.lo _ xP e').symm
            have hll : (lab k).length + (lab q).length ≤ 1000000 := by
              have a1 := tw.out.tm.lb _ q hq
              have a2 := congrArg List.length a1
              have a3 := tw.out.tm.len q hq.lo
              have a4 := tw.out.tm.len _ xP
              have hxn : k ≠ [] := by have := hb1.out; simpa using this
              obtain ⟨u2, hu2⟩ := kid_up tw.out.tm.root _ (Nat.le_refl _) tw.out.tm.root xP List.nil_prefix (Ne.symm hxn)
              have a5 := congrArg List.length (tw.out.tm.lb u2 _ hu2)
              simp at a2 a5
              omega
            have hab2 := absorb_any w (nb k) (nb q) _ _ _ _ _ _ _ _ hll bx bq hqx hkm hfc h1f
            have htx : tb ≠ nb k := fun e' => tw.out.nof ⟨_, xP, .inl e'⟩
            have hxne : Hid (k ≠ []) := ⟨by have := hb1.out; simpa using this⟩
            have hexn : Hid (e k = none) := ⟨by have := ho.out; simpa using this⟩
            replace hfc : Hid _ := ⟨hfc⟩
            replace h1f : Hid _ := ⟨h1f⟩
            replace bx : Hid _ := ⟨bx⟩
            replace bq : Hid _ := ⟨bq⟩
            replace h1q : Hid _ := ⟨h1q⟩
            go_wp2_with fail
            refine hab2.mono ?_
            rintro r w8 ⟨rfl, hb8, hg8⟩
            have ht8 := (hg8.block tb tw.out.lt (by simpa using htx)).trans tw.out.tb
            have q2 : w8.cell? ⟨tb, 2, none⟩ = some (.int .i64 P.length) := by simp only [World.cell?, ht8]; rfl
            have qf : ∀ i, w8.frozen? ⟨tb, i, none⟩ = false := fun i => by simp [World.frozen?, ht8]
            clear hab2
            obtain ⟨v8, hv8, hfin⟩ := M.out.join hxne.out hexn.out hq h1q.out hb8 hg8 (fun v => heap_set ht8 2 v)
            subst hv8
            replace hfin : Hid _ := ⟨hfin⟩
            replace hb8 : Hid _ := ⟨hb8⟩
            replace hg8 : Hid _ := ⟨hg8⟩
            go_wp2
            go_end0
            exact ⟨rfl, _, _, _, _, hfin.out⟩
    | true =>
      have hno := hm0.out.1 (by have := hz.out; simp at this; omega)
      have hkn : k ≠ [] := by have := hb0.out; simpa using this
      obtain ⟨u, hu, rfl⟩ : ∃ u, Kid P u k ∧ ab = ptr (nb u) := by
        rcases hab.out with ⟨e', _⟩ | h'
        · exact absurd e' hkn
        · exact h'
      obtain ⟨f, hkm, hf⟩ := h.tm.km u hu.up
      obtain ⟨c, hcu⟩ := hu.snoc
      have hlb := h.tm.lb u k hu
      have hlk0 : (lab k)[0]? = some c := by
        obtain ⟨t, ht⟩ := hcu
        rw [hlb, List.append_assoc] at ht
        have := List.append_cancel_left ht
        rw [← this]
        rfl
      have hkm' : Km w.drew (mb u) f := hkm.kept rfl
      obtain ⟨w3, hrun, km3, g3⟩ := hkm'.drop c 0
      have u3 := h.tm.c3 hu.up
      have k0 := h.tm.c0 hk
      have ix := get_bt hlk0
      have sz := bt_size (lab k)
      have lc : 0 < (lab k).length := (List.getElem?_eq_some_iff.1 hlk0).1
      have htm : tb ≠ mb u := fun e' => h.nof ⟨u, hu.up, .inr e'⟩
      have b3 := (g3.block tb (show tb < w.drew.heap.size from h.lt) (by simpa using htm)).trans h.tb
      have q2 : w3.cell? ⟨tb, 2, none⟩ = some (.int .i64 P.length) := by simp [World.cell?, b3]
      have qf : ∀ i, w3.frozen? ⟨tb, i, none⟩ = false := fun i => by simp [World.frozen?, b3]
      replace hlb : Hid _ := ⟨hlb⟩
      replace hlk0 : Hid _ := ⟨hlk0⟩
      replace b3 : Hid _ := ⟨b3⟩
      replace g3 : Hid _ := ⟨g3⟩
      replace km3 : Hid _ := ⟨km3⟩
      replace hno : Hid _ := ⟨hno⟩
      replace hkn : Hid _ := ⟨hkn⟩
      replace hu : Hid _ := ⟨hu⟩
      go_wp2_with fail
      go_region
      go_upto_region 4 with fail
      obtain ⟨g3⟩ := g3
      obtain ⟨km3⟩ := km3
      obtain ⟨b3⟩ := b3
      obtain ⟨hno⟩ := hno
      obtain ⟨hu⟩ := hu
      have gs := grown_setCell w3 ⟨tb, 2, none⟩ (Value.int .i64 ((P.length : Int) - 1))
      have bs : (w3.setCell ⟨tb, 2, none⟩ (Value.int .i64 ((P.length : Int) - 1))).heap[tb]? = some (.cells #[ptr (nb []), .int .i64 n, .int .i64 ((P.length : Int) - 1)] 59 (0, 0)) := heap_set b3 2 _
      generalize w3.setCell ⟨tb, 2, none⟩ (Value.int .i64 ((P.length : Int) - 1)) = w4 at *
      have hs3 : w.heap.size ≤ w3.heap.size := g3.size
      have M : Mid w w4 tb P nb mb e n (rmv k P) nb mb lab u := by
        have old : ∀ j, Fp P nb mb j → j ≠ mb u → w4.heap[j]? = w.heap[j]? := fun j hj hne =>
          (gs.block j (by have := h.tm.flt hj; omega) (by simp; rintro rfl; exact h.nof hj)).trans (g3.block j (show j < w.drew.heap.size from h.tm.flt hj) (by simpa using hne))
        have hT := h.tm.leaf (w' := w4) hu hno hek hcu hf (km3.kept (gs.block (mb u) km3.lt (by simp; exact htm.symm))) old
        have hkid := fun {a b : K} => leaf_kid (a := a) (b := b) hk hno
        have huk : u ≠ k := hu.ne
        refine ⟨⟨hT, ?_⟩, mem_rmv.2 ⟨hu.up, huk⟩, fun p hp hne hpu => ?_, ?_, ?_, fun j hj => ?_⟩
        · have hl := rmv_len h.tm.nd hk
          have e1 : (((rmv k P).length : Nat) : Int) = (P.length : Int) - 1 := by omega
          rw [e1]
          exact bs
        · obtain ⟨hp1, hpk⟩ := mem_rmv.1 hp
          rcases htg.out p hp1 hne hpk with h2 | ⟨a, b, ha, hb2, hab2⟩
          · exact .inl h2
          · exact .inr ⟨a, b, hkid.2 ⟨ha, fun e' => hpu (Kid.one (e' ▸ ha) hu)⟩, hkid.2 ⟨hb2, fun e' => hpu (Kid.one (e' ▸ hb2) hu)⟩, hab2⟩
        · by_cases hun : u = []
          · exact .inl hun
          · rcases htg.out u hu.up hun huk with h2 | ⟨a, b, ha, hb2, hab2⟩
            · exact .inr (.inl h2)
            · refine .inr (.inr ?_)
              by_cases hak : a = k
              · exact ⟨b, hkid.2 ⟨hb2, fun e' => hab2 (hak.trans e'.symm)⟩⟩
              · exact ⟨a, hkid.2 ⟨ha, hak⟩⟩
        · refine ((Kp.of0 (C := Ft tb P nb mb) (grown_drew w)).grown g3 ?_).grown gs ?_
          · intro j hj; cases hj
            exact .inl (.inr ⟨u, hu.up, .inr rfl⟩)
          · intro j hj; cases hj
            exact .inl (.inl rfl)
        · obtain ⟨p, hp, hj⟩ := hj
          exact ⟨p, (mem_rmv.1 hp).1, hj⟩
      have hn2 : (rmv k P).length ≤ 1000000 := by have := rmv_len h.tm.nd hk; omega
      clear gs bs g3 km3 b3 q2 qf hneq hm c3 hz' c0 u3 k0 ix sz lc hkm' hkm hf hrun hno hs3 hcu
      have tw := M.tw
      have xP := M.xP
      have hP1 : ∃ b1, Hid (decide (u ≠ []) = b1) := ⟨_, ⟨rfl⟩⟩
      obtain ⟨b1, hb1⟩ := hP1
      have hneq2 := tw.tm.neq0 xP hb1
      have d0 := tw.c0
      have d2 := tw.c2
      have df := tw.fz
      have e2 := tw.tm.c2 xP
      have e3 := tw.tm.c3 xP
      obtain ⟨m2, hm2, _, hmm⟩ := tw.tm.cnt xP 3
      obtain ⟨o, ho⟩ : ∃ o, Hid ((e u).isSome = o) := ⟨_, ⟨rfl⟩⟩
      rw [ho.out] at e2
      obtain ⟨z2, hz2⟩ : ∃ z2, Hid (((m2 : Int) == 1) = z2) := ⟨_, ⟨rfl⟩⟩
      have hz2' := hz2.out
      replace hmm : Hid _ := ⟨hmm⟩
      replace M : Hid _ := ⟨M⟩
      replace tw : Hid _ := ⟨tw⟩
      cases b1 with
      | false =>
        go_wp2
        go_end0
        exact ⟨rfl, _, _, _, _, M.out.fin (.inl (by have := hb1.out; simpa using this))⟩
      | true =>
        cases o with
        | true =>
          go_wp2
          go_end0
          exact ⟨rfl, _, _, _, _, M.out.fin (.inr (.inl ho.out))⟩
        | false =>
          cases z2 with
          | false =>
            go_wp2
            go_end0
            exact ⟨rfl, _, _, _, _, M.out.fin (.inr (.inr fun hc => by
              have e5 := hmm.out.2 hc
              have := hz2.out
              rw [e5] at this
              simp at this))⟩
          | true =>
            obtain ⟨q, hq, h1q⟩ := hmm.out.1 (by have := hz2.out; simp at this; omega)
            obtain ⟨f, hkm, hf⟩ := tw.out.tm.km _ xP
            obtain ⟨c, hcq⟩ := hq.snoc
            have hfc := (hf c _).2 ⟨q, hq, hcq, rfl⟩
            have h1f : ∀ d, (f d).isSome = true ↔ d = c := fun d => by
              constructor
              · intro hd
                obtain ⟨b, hb⟩ := Option.isSome_iff_exists.1 hd
                obtain ⟨r, hr, hdr, _⟩ := (hf d b).1 hb
                rw [h1q r hr] at hdr
                exact snoc_inj hdr hcq
              · rintro rfl
                rw [hfc]; rfl
            have bx := tw.out.tm.blk _ xP
            have bq := tw.out.tm.blk _ hq.lo
            have hqx : nb q ≠ nb u := fun e' => hq.ne (tw.out.tm.nbi q hq.lo _ xP e').symm
            have hll : (lab u).length + (lab q).length ≤ 1000000 := by
              have a1 := tw.out.tm.lb _ q hq
              have a2 := congrArg List.length a1
              have a3 := tw.out.tm.len q hq.lo
              have a4 := tw.out.tm.len _ xP
              have hxn : u ≠ [] := by have := hb1.out; simpa using this
              obtain ⟨u2, hu2⟩ := kid_up tw.out.tm.root _ (Nat.le_refl _) tw.out.tm.root xP List.nil_prefix (Ne.symm hxn)
              have a5 := congrArg List.length (tw.out.tm.lb u2 _ hu2)
              simp at a2 a5
              omega
            have hab2 := absorb_any w4 (nb u) (nb q) _ _ _ _ _ _ _ _ hll bx bq hqx hkm hfc h1f
            have htx : tb ≠ nb u := fun e' => tw.out.nof ⟨_, xP, .inl e'⟩
            have hxne : Hid (u ≠ []) := ⟨by have := hb1.out; simpa using this⟩
            have hexn : Hid (e u = none) := ⟨by have := ho.out; simpa using this⟩
            replace hfc : Hid _ := ⟨hfc⟩
            replace h1f : Hid _ := ⟨h1f⟩
            replace bx : Hid _ := ⟨bx⟩
            replace bq : Hid _ := ⟨bq⟩
            replace h1q : Hid _ := ⟨h1q⟩
            go_wp2_with fail
            refine hab2.mono ?_
            rintro r w8 ⟨rfl, hb8, hg8⟩
            have ht8 := (hg8.block tb tw.out.lt (by simpa using htx)).trans tw.out.tb
            have q2 : w8.cell? ⟨tb, 2, none⟩ = some (.int .i64 (rmv k P).length) := by simp only [World.cell?, ht8]; rfl
            have qf : ∀ i, w8.frozen? ⟨tb, i, none⟩ = false := fun i => by simp [World.frozen?, ht8]
            clear hab2
            obtain ⟨v8, hv8, hfin⟩ := M.out.join hxne.out hexn.out hq h1q.out hb8 hg8 (fun v => heap_set ht8 2 v)
            subst hv8
            replace hfin : Hid _ := ⟨hfin⟩
            replace hb8 : Hid _ := ⟨hb8⟩
            replace hg8 : Hid _ := ⟨hg8⟩
            go_wp2
            go_end0
            exact ⟨rfl, _, _, _, _, hfin.out⟩
end Go.Proofs.Ytpcdmjalfabbmaa
