/- From a node towards a key, where a kid begins so. -/
import Derived.Test.YtpcdmjalfabbmaaTow
namespace Go.Proofs.Ytpcdmjalfabbmaa
open Go.RowKit Go.IntWalk Go.Maps
set_option linter.unusedVariables false
theorem cut_bt (k : K) (n : Nat) : (bt k).extract n k.length = bt (k.drop n) := by
  have := bt_drop k n
  rwa [bt_size] at this
set_option maxRecDepth 100000 in
set_option maxHeartbeats 2000000 in
/-- .. whose label goes on to the rest. -/
theorem toward_kid (w : World) {tb : Nat} {P : List K} {nb mb : K → Nat} {lab : K → K} {e : K → Option ByteArray} {n : Nat} (h : Tw w tb P nb mb lab e n) {p k : K} {c : UInt8} {l : K} (hp : p ∈ P) (hkl : (p ++ c :: l).length ≤ 100000) (hn : P.length ≤ 1000000)
    {f : UInt8 → Option Nat} (hkm : Km w (mb p) f) (hc : f c = some (nb k)) (hK : Kid P p k) (hpre : k <+: p ++ c :: l) :
    Calls Try.prog 29 #[ptr tb, ptr (nb p), .string (bt (c :: l))] w fun r w' => ∃ P' nb' mb' lab' q, r = .returned (.tuple #[ptr (nb' q), .string (bt ((p ++ c :: l).drop q.length))]) ∧ Towd w w' tb P P' nb mb nb' mb' lab' e n (p ++ c :: l) p q := by
  haveI := lat_nonempty w
  have k3 := lat_cell (h.tm.c3 hp)
  have kl := fun q : Lat w => (hkm.kept (q.h.block _ hkm.lt (by simp))).look hc
  have ix := get_bt (k := c :: l) (i := 0) (c := c) rfl
  have sz := bt_size (c :: l)
  have lc : 0 < (c :: l).length := by simp
  have hl1 : (c :: l).length ≤ 100000 := by simp at hkl ⊢; omega
  have hlb := h.tm.lb p k hK
  have hpre2 : lab k <+: c :: l := by
    rw [hlb] at hpre
    exact (List.prefix_append_right_inj p).1 hpre
  have hlcp := lcp_pre hpre2
  have hll := hpre2.length_le
  have hlen : Hid (k.length = p.length + (lab k).length) := ⟨by have := congrArg List.length hlb; simpa using this⟩
  replace hlb : Hid _ := ⟨hlb⟩
  generalize hrest : c :: l = rest at *
  obtain ⟨R, hR⟩ : ∃ R : Nat, R = (lab k).length := ⟨_, rfl⟩
  have hRR : Hid (R = (lab k).length) := ⟨hR⟩
  have hcm := fun W => common_any W (lab k) rest (by omega) (by omega)
  rw [hlcp, ← hR] at hcm
  have szl : (bt (lab k)).size = R := by rw [bt_size, hR]
  have hcut := cut_bt rest R
  rw [← hR] at hll
  have hll2 : (R : Int) ≤ (rest.length : Int) := by omega
  have hq := h.tm.c0 hK.lo
  go_enter Try.func29, Try.ntmps29
  go_wp2_with fail
  refine wp_region_lat (by kernel_rfl) (by kernel_rfl) ?_
  repeat (go_big_quiet_step (fail))
  refine wpQuiet_nil ?_
  intro _ hw'
  obtain ⟨q, hw''⟩ := hw'
  subst hw''
  have hg0 := q.h
  obtain ⟨w1, hw1⟩ : ∃ w1, w1 = q.W := ⟨_, rfl⟩
  rw [← hw1] at hg0 ⊢
  clear hw1 k3 kl q ix
  have hq1 := grown_cell hg0 hq
  go_wp2_with fail
  refine (hcm w1).mono ?_
  rintro r w2 ⟨rfl, hg2⟩
  have hq2 := grown_cell hg2 hq1
  have hg := grown_none hg0 hg2
  replace hg : Hid _ := ⟨hg⟩
  clear hg0 hg2 hq hq1 hcm hR hlcp
  haveI := lat_nonempty w2
  go_wp2_with fail
  refine wp_region_lat (by kernel_rfl) (by kernel_rfl) ?_
  repeat (go_big_quiet_step (fail))
  refine wpQuiet_nil ?_
  intro _ hw'
  obtain ⟨q, hw''⟩ := hw'
  subst hw''
  have hg3 := grown_none hg.out q.h
  generalize q.W = w3 at *
  go_wp2_with fail
  go_ret2
  refine ⟨P, nb, mb, lab, k, ?_, ⟨h.keep hg3, hK.lo, hpre, ?_, fun key _ hC => hC, rfl, Kp.of0 hg3, fun j hj => .inl hj, by omega⟩⟩
  · have e1 : (p ++ rest).drop k.length = rest.drop R := by
      rw [hlen.out, ← hRR.out, ← List.drop_drop, List.drop_left' rfl]
    rw [e1]
    rfl
  · exact pre_len_lt hK.pre hK.ne
set_option maxRecDepth 100000 in
set_option maxHeartbeats 2000000 in
/-- .. whose label goes off: it is parted. -/
theorem toward_part (w : World) {tb : Nat} {P : List K} {nb mb : K → Nat} {lab : K → K} {e : K → Option ByteArray} {n : Nat} (h : Tw w tb P nb mb lab e n) {p k : K} {c : UInt8} {l : K} (hp : p ∈ P) (hkl : (p ++ c :: l).length ≤ 100000) (hn : P.length ≤ 1000000)
    {f : UInt8 → Option Nat} (hkm : Km w (mb p) f) (hc : f c = some (nb k)) (hK : Kid P p k) (hck : p ++ [c] <+: k) (hpre : ¬ k <+: p ++ c :: l) :
    Calls Try.prog 29 #[ptr tb, ptr (nb p), .string (bt (c :: l))] w fun r w' => ∃ P' nb' mb' lab' q, r = .returned (.tuple #[ptr (nb' q), .string (bt ((p ++ c :: l).drop q.length))]) ∧ Towd w w' tb P P' nb mb nb' mb' lab' e n (p ++ c :: l) p q := by
  haveI := lat_nonempty w
  have k3 := lat_cell (h.tm.c3 hp)
  have kl := fun q : Lat w => (hkm.kept (q.h.block _ hkm.lt (by simp))).look hc
  have ix := get_bt (k := c :: l) (i := 0) (c := c) rfl
  have sz := bt_size (c :: l)
  have lc : 0 < (c :: l).length := by simp
  have hl1 : (c :: l).length ≤ 100000 := by simp at hkl ⊢; omega
  have hlb := h.tm.lb p k hK
  have hkl2 := h.tm.len k hK.lo
  have hlabl : (lab k).length ≤ 100000 := by
    have := congrArg List.length hlb
    simp at this
    omega
  have hpre2 : ¬ lab k <+: c :: l := fun e' => hpre (by rw [hlb]; exact (List.prefix_append_right_inj p).2 e')
  obtain ⟨l1, hl1e⟩ : ∃ l1, lcp (lab k) (c :: l) = l1 := ⟨_, rfl⟩
  have p1 : l1 <+: lab k := hl1e ▸ lcp_l _ _
  have p2 : l1 <+: c :: l := hl1e ▸ lcp_r _ _
  have hc1 : [c] <+: lab k := by
    have h1 : p ++ [c] <+: p ++ lab k := hlb ▸ hck
    exact (List.prefix_append_right_inj p).1 h1
  have hc2 : [c] <+: l1 := hl1e ▸ lcp_max hc1 ⟨l, rfl⟩
  have hne1 : l1 ≠ lab k := fun e' => hpre2 (e' ▸ p2)
  obtain ⟨c2, lk, hlk⟩ := pre_strict p1 hne1
  have hll := p2.length_le
  have hl0 := hc2.length_le
  generalize hrest : c :: l = rest at *
  have hkm1 : k = (p ++ l1) ++ (c2 :: lk) := by rw [List.append_assoc, ← hlk]; exact hlb
  have hP : Part P p (p ++ l1) k := ⟨hK, List.prefix_append _ _, fun e' => by
    have := congrArg List.length e'
    rw [List.length_append] at this
    simp at hl0
    omega, hkm1 ▸ List.prefix_append _ _, fun e' => by
    have := congrArg List.length (e'.trans hkm1)
    simp at this⟩
  obtain ⟨R, hR⟩ : ∃ R : Nat, R = l1.length := ⟨_, rfl⟩
  have hcm := fun W => common_any W (lab k) rest (by omega) (by omega)
  rw [hl1e, ← hR] at hcm
  obtain ⟨J, hJ⟩ : ∃ J : Nat, (c2 :: lk).length = J := ⟨_, rfl⟩
  have hJ0 : 0 < J := by rw [← hJ]; simp
  have hlkl : (lab k).length = R + J := by rw [hlk, hR, List.length_append, hJ]
  have szl : (bt (lab k)).size = R + J := by rw [bt_size, hlkl]
  have hcut := cut_bt rest R
  have hllR : R ≤ rest.length := by omega
  have hll2 : (R : Int) ≤ (rest.length : Int) := by omega
  have hdc : decide ((R : Int) < (R : Int) + (J : Int)) = true := by simp; omega
  have hdc2 : (R : Int) < (R : Int) + (J : Int) := by omega
  have hq := h.tm.c0 hK.lo
  have hbk := h.tm.blk k hK.lo
  have hkP := hK.lo
  have hnkl := h.tm.nlt hK.lo
  have htl := h.lt
  have htn : tb ≠ nb k := fun e' => h.nof ⟨k, hkP, .inl e'⟩
  have hRe : Hid (R = l1.length) := ⟨hR⟩
  have hJe : Hid ((c2 :: lk).length = J) := ⟨hJ⟩
  have hrs : Hid (c :: l = rest) := ⟨hrest⟩
  have hX : Hid (l1 <+: lab k ∧ l1 <+: rest ∧ [c].length ≤ l1.length ∧ Kid P p k ∧ k ∈ P ∧ (¬ k <+: p ++ rest) ∧ (p ++ rest).length ≤ 100000) := ⟨p1, p2, hl0, hK, hkP, hpre, hkl⟩
  clear hJ hrest p1 p2 hl0 hpre hpre2 hne1 hc1 hc2 hck
  have hPh : Hid (Part P p (p ++ l1) k) := ⟨hP⟩
  replace hl1e : Hid _ := ⟨hl1e⟩
  clear hP
  replace hlb : Hid _ := ⟨hlb⟩
  replace hlk : Hid _ := ⟨hlk⟩
  replace hkm1 : Hid _ := ⟨hkm1⟩
  replace hlkl : Hid _ := ⟨hlkl⟩
  clear hR
  go_enter Try.func29, Try.ntmps29
  go_wp2_with fail
  refine wp_region_lat (by kernel_rfl) (by kernel_rfl) ?_
  repeat (go_big_quiet_step (fail))
  refine wpQuiet_nil ?_
  intro _ hw'
  obtain ⟨q, hw''⟩ := hw'
  subst hw''
  have hg0 := q.h
  obtain ⟨w1, hw1⟩ : ∃ w1, w1 = q.W := ⟨_, rfl⟩
  rw [← hw1] at hg0 ⊢
  clear hw1 k3 kl q ix
  have hq1 := grown_cell hg0 hq
  go_wp2_with fail
  refine (hcm w1).mono ?_
  rintro r w2 ⟨rfl, hg2⟩
  have hq2 := grown_cell hg2 hq1
  have hg := grown_none hg0 hg2
  have hbk2 := (hg.block _ hnkl (by simp)).trans hbk
  rw [hlk.out] at hbk2
  have hpa := part_any w2 (nb k) l1 (c2 :: lk) (vOf (e k)) (e k).isSome (mb k) c2 rfl (by have := hRe.out; have := hlkl.out; omega) (by have := hJe.out; have := hlkl.out; omega) hbk2
  rw [← hRe.out] at hpa
  have h2 := h.keep hg
  replace hg : Hid _ := ⟨hg⟩
  clear hg0 hg2 hq hq1 hcm
  go_wp2_with fail
  refine hpa.mono ?_
  rintro r w3 ⟨rfl, um, lo, hum, hlo, hb3, hkm3, hbl3, hg3⟩
  have hb3t := (hg3.block tb h2.lt (by simpa using htn)).trans h2.tb
  have q2 : w3.cell? ⟨tb, 2, none⟩ = some (.int .i64 P.length) := by simp [World.cell?, hb3t]
  have qf : ∀ i, w3.frozen? ⟨tb, i, none⟩ = false := fun i => by simp [World.frozen?, hb3t]
  replace hg3 : Hid _ := ⟨hg3⟩
  replace hb3 : Hid _ := ⟨hb3⟩
  replace hbl3 : Hid _ := ⟨hbl3⟩
  replace hkm3 : Hid _ := ⟨hkm3⟩
  clear hpa hbk2
  go_wp2_with fail
  obtain ⟨w4, hw4⟩ : ∃ w4, w4 = w3.setCell ⟨tb, 2, none⟩ (Value.int IntKind.i64 ((P.length : Int) + 1)) := ⟨_, rfl⟩
  rw [← hw4]
  replace hw4 : Hid _ := ⟨hw4⟩
  haveI := lat_nonempty w4
  refine wp_region_lat (by kernel_rfl) (by kernel_rfl) ?_
  repeat (go_big_quiet_step (fail))
  refine wpQuiet_nil ?_
  intro _ hw'
  obtain ⟨q, hw''⟩ := hw'
  subst hw''
  have hg5 := q.h
  generalize q.W = w5 at *
  go_wp2_with fail
  go_ret2
  obtain ⟨p1, p2, hl0, hK, hkP, hpre, hkl⟩ := hX.out
  have hP := hPh.out
  have hR := hRe.out
  have hl1e := hl1e.out
  obtain ⟨hg⟩ := hg
  obtain ⟨hg3⟩ := hg3
  obtain ⟨hb3⟩ := hb3
  obtain ⟨hbl3⟩ := hbl3
  obtain ⟨hkm3⟩ := hkm3
  have hw4 := hw4.out
  have g4 : w3.grownBy w4 (some tb) := hw4 ▸ grown_setCell w3 ⟨tb, 2, none⟩ (Value.int IntKind.i64 ((P.length : Int) + 1))
  have b4 : w4.heap[tb]? = some (.cells #[ptr (nb []), .int .i64 n, .int .i64 ((P.length : Int) + 1)] 59 (0, 0)) := by
    rw [hw4]
    exact heap_set hb3t 2 _
  have s2 := hg.size
  have s3 := hg3.size
  have s4 := g4.size
  have s5 := hg5.size
  clear hw4 q
  have nof : ∀ j, w2.heap.size ≤ j → ¬ Fp P nb mb j := fun j hj hf => by have := h.tm.flt hf; omega
  have old : ∀ j, j < w.heap.size → j ≠ nb k → j ≠ tb → w5.heap[j]? = w.heap[j]? := fun j hj h1 h3 =>
    (hg5.block j (by omega) (by simp)).trans ((g4.block j (by omega) (by simpa using h3)).trans ((hg3.block j (by omega) (by simpa using h1)).trans (hg.block j hj (by simp))))
  have up : ∀ (j : Nat) (o : Obj), j ≠ tb → w3.heap[j]? = some o → w5.heap[j]? = some o := fun j o hj ho => by
    have hjl := (Array.getElem?_eq_some_iff.1 ho).1
    exact (hg5.block j (by omega) (by simp)).trans ((g4.block j hjl (by simpa using hj)).trans ho)
  have hsn : (p ++ l1) ++ [c2] <+: k := ⟨lk, by rw [hkm1.out]; simp⟩
  have tm5 := h.tm.part (w' := w5) hP rfl hkm1.out hsn (up _ _ htn.symm hb3) (hkm3.kept (by
      obtain ⟨es, clock, hm⟩ := hkm3.isMap
      rw [up _ _ (by omega) hm, hm])) (up _ _ (by omega) hbl3) (nof um hum) (nof lo hlo) (fun j hj hne => old j (h.tm.flt hj) hne fun e' => h.nof (e' ▸ hj))
  have hpl : (p ++ l1).length = p.length + R := by rw [List.length_append, hR]
  have hl0' : 1 ≤ R := by rw [hR]; simpa using hl0
  have kne : ([] : K) ≠ p ++ l1 := fun e' => by have := congrArg List.length e'; rw [hpl] at this; simp at this; omega
  refine ⟨_, _, _, _, p ++ l1, ?_, ⟨⟨tm5, ?_⟩, by simp, (List.prefix_append_right_inj p).2 p2, by rw [hpl]; omega, fun key hk hC => ?_, ?_, ?_, ?_, by simp⟩⟩
  · rw [fset_other _ _ hP.nk, fset_same, hpl, ← List.drop_drop, List.drop_left' rfl]
    rfl
  · rw [fset_other _ _ hK.ne0.symm, fset_other _ _ kne]
    simp only [List.length_cons, Int.natCast_add, Int.cast_ofNat_Int]
    exact (hg5.block tb (by omega) (by simp)).trans b4
  · intro x hx
    rcases List.mem_cons.1 hx with rfl | hx
    · refine .inr (.inr ?_)
      obtain ⟨a, ha, hka⟩ := hC.ext hkP hK.ne0
      refine ⟨a, p ++ rest, ha, hk, ?_⟩
      rw [lcp_off hka hpre]
      refine lcp_eq hP.hi ((List.prefix_append_right_inj p).2 p2) fun x h1 h2 => ?_
      rcases pre_lin h1 hK.pre with h3 | h3
      · exact h3.trans (List.prefix_append _ _)
      · obtain ⟨t, rfl⟩ := h3
        refine (List.prefix_append_right_inj p).2 ?_
        rw [← hl1e]
        refine lcp_max ?_ ((List.prefix_append_right_inj p).1 h2)
        have h4 : p ++ t <+: p ++ lab k := hlb.out ▸ h1
        exact (List.prefix_append_right_inj p).1 h4
    · exact hC x hx
  · rw [fset_other _ _ hK.ne0.symm, fset_other _ _ kne]
  · refine (((Kp.of0 hg).grown hg3 ?_).grown g4 ?_).grown hg5 (by simp)
    · intro j hj; cases hj; exact .inl (.inr ⟨k, hkP, .inl rfl⟩)
    · intro j hj; cases hj; exact .inl (.inl rfl)
  · rintro j ⟨x, hx, hj⟩
    rcases List.mem_cons.1 hx with rfl | hx
    · rw [fset_other _ _ hP.nk, fset_same, fset_same] at hj
      rcases hj with rfl | rfl
      · exact .inl ⟨k, hkP, .inl rfl⟩
      · exact .inr (by omega)
    · have hxm : x ≠ p ++ l1 := fun e' => hP.new (e' ▸ hx)
      rw [fset_other _ _ hxm] at hj
      by_cases exk : x = k
      · subst exk
        rw [fset_same] at hj
        rcases hj with rfl | rfl
        · exact .inr (by omega)
        · exact .inl ⟨x, hx, .inr rfl⟩
      · rw [fset_other _ _ exk, fset_other _ _ hxm] at hj
        exact .inl ⟨x, hx, hj⟩
set_option maxRecDepth 100000 in
set_option maxHeartbeats 2000000 in
/-- Trie.toward. -/
theorem toward_any (w : World) {tb : Nat} {P : List K} {nb mb : K → Nat} {lab : K → K} {e : K → Option ByteArray} {n : Nat} (h : Tw w tb P nb mb lab e n) {p : K} {c : UInt8} {l : K} (hp : p ∈ P) (hkl : (p ++ c :: l).length ≤ 100000) (hn : P.length ≤ 1000000) :
    Calls Try.prog 29 #[ptr tb, ptr (nb p), .string (bt (c :: l))] w fun r w' => ∃ P' nb' mb' lab' q, r = .returned (.tuple #[ptr (nb' q), .string (bt ((p ++ c :: l).drop q.length))]) ∧ Towd w w' tb P P' nb mb nb' mb' lab' e n (p ++ c :: l) p q := by
  obtain ⟨f, hkm, hf⟩ := h.tm.km p hp
  cases hc : f c with
  | none => exact toward_new w h hp hkl hn hkm hf hc
  | some b =>
    obtain ⟨k, hK, hck, rfl⟩ := (hf c b).1 hc
    by_cases hpre : k <+: p ++ c :: l
    · exact toward_kid w h hp hkl hn hkm hc hK hpre
    · exact toward_part w h hp hkl hn hkm hc hK hck hpre
end Go.Proofs.Ytpcdmjalfabbmaa
