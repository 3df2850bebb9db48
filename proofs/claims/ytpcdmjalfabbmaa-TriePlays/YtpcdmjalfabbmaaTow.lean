/- From a node towards a key. -/
import Derived.Test.YtpcdmjalfabbmaaAbs
namespace Go.Proofs.Ytpcdmjalfabbmaa
open Go.RowKit Go.IntWalk Go.Maps
set_option linter.unusedVariables false
/-- A trie with its struct: n entries. -/
structure Tw (w : World) (tb : Nat) (P : List K) (nb mb : K → Nat) (lab : K → K) (e : K → Option ByteArray) (n : Nat) : Prop where
  tm : Tm w P nb mb lab e
  tb : w.heap[tb]? = some (.cells #[ptr (nb []), .int .i64 n, .int .i64 P.length] 59 (0, 0))
section
variable {w w' : World} {tb : Nat} {P : List K} {nb mb : K → Nat} {lab : K → K} {e : K → Option ByteArray} {n : Nat}
theorem Tw.c0 (h : Tw w tb P nb mb lab e n) : w.cell? ⟨tb, 0, none⟩ = some (ptr (nb [])) := by simp [World.cell?, h.tb]
theorem Tw.c1 (h : Tw w tb P nb mb lab e n) : w.cell? ⟨tb, 1, none⟩ = some (.int .i64 n) := by simp [World.cell?, h.tb]
theorem Tw.c2 (h : Tw w tb P nb mb lab e n) : w.cell? ⟨tb, 2, none⟩ = some (.int .i64 P.length) := by simp [World.cell?, h.tb]
theorem Tw.fz (h : Tw w tb P nb mb lab e n) (i : Nat) : w.frozen? ⟨tb, i, none⟩ = false := by simp [World.frozen?, h.tb]
theorem Tw.lt (h : Tw w tb P nb mb lab e n) : tb < w.heap.size := (Array.getElem?_eq_some_iff.1 h.tb).1
theorem Tw.nof (h : Tw w tb P nb mb lab e n) : ¬ Fp P nb mb tb := by
  rintro ⟨p, hp, e' | e'⟩
  · have := h.tm.blk p hp
    rw [← e', h.tb] at this
    simp [nobj] at this
  · obtain ⟨f, h1, _⟩ := h.tm.km p hp
    obtain ⟨es, clock, h2⟩ := h1.isMap
    rw [← e', h.tb] at h2
    cases h2
theorem Tw.keep (h : Tw w tb P nb mb lab e n) (hg : w.grownBy w' none) : Tw w' tb P nb mb lab e n := ⟨h.tm.keep hg, (hg.block tb h.lt (by simp)).trans h.tb⟩
theorem Tw.kept (h : Tw w tb P nb mb lab e n) (hb : ∀ j, j = tb ∨ Fp P nb mb j → w'.heap[j]? = w.heap[j]?) : Tw w' tb P nb mb lab e n := ⟨h.tm.kept fun j hj => hb j (.inr hj), (hb tb (.inl rfl)).trans h.tb⟩
end
/-- A trie's blocks, its struct among them. -/
abbrev Ft (tb : Nat) (P : List K) (nb mb : K → Nat) (j : Nat) : Prop := j = tb ∨ Fp P nb mb j
theorem Kp.grown {C : Nat → Prop} {w w1 w2 : World} {row : Option Nat} (h : Kp C w w1) (hg : w1.grownBy w2 row) (hr : ∀ k, row = some k → C k ∨ w.heap.size ≤ k) : Kp C w w2 :=
  ⟨hg.os.trans h.os, hg.tape.trans h.tape, hg.output.trans h.output, Nat.le_trans h.size hg.size, fun k hk hc => (hg.block k (Nat.lt_of_lt_of_le hk h.size) (fun e => by
    rcases hr k e.symm with h1 | h1
    · exact hc h1
    · omega)).trans (h.block k hk hc)⟩
/-- What going towards a key leaves. -/
structure Towd (w w' : World) (tb : Nat) (P P' : List K) (nb mb nb' mb' : K → Nat) (lab' : K → K) (e : K → Option ByteArray) (n : Nat) (k p q : K) : Prop where
  tw : Tw w' tb P' nb' mb' lab' e n
  qP : q ∈ P'
  pre : q <+: k
  lt : p.length < q.length
  cn : ∀ key : K → Prop, key k → Cn P key → Cn P' key
  rt : nb' [] = nb []
  kp : Kp (Ft tb P nb mb) w w'
  fp : ∀ j, Fp P' nb' mb' j → Fp P nb mb j ∨ w.heap.size ≤ j
  ln : P'.length ≤ P.length + 1
theorem Cn.mono {P : List K} {key key' : K → Prop} (h : Cn P key) (hk : ∀ p, key p → key' p) : Cn P key' := fun p hp => by
  rcases h p hp with e | e | ⟨a, b, ha, hb, e⟩
  · exact .inl e
  · exact .inr (.inl (hk p e))
  · exact .inr (.inr ⟨a, b, hk a ha, hk b hb, e⟩)
set_option maxRecDepth 100000 in
set_option maxHeartbeats 2000000 in
/-- .. where no kid begins so. -/
theorem toward_new (w : World) {tb : Nat} {P : List K} {nb mb : K → Nat} {lab : K → K} {e : K → Option ByteArray} {n : Nat} (h : Tw w tb P nb mb lab e n) {p : K} {c : UInt8} {l : K} (hp : p ∈ P) (hkl : (p ++ c :: l).length ≤ 100000) (hn : P.length ≤ 1000000)
    {f : UInt8 → Option Nat} (hkm : Km w (mb p) f) (hf : Kf P nb p f) (hc : f c = none) :
    Calls Try.prog 29 #[ptr tb, ptr (nb p), .string (bt (c :: l))] w fun r w' => ∃ P' nb' mb' lab' q, r = .returned (.tuple #[ptr (nb' q), .string (bt ((p ++ c :: l).drop q.length))]) ∧ Towd w w' tb P P' nb mb nb' mb' lab' e n (p ++ c :: l) p q := by
  obtain ⟨hT, hA⟩ := top_none (l := l) hp (hf.none.1 hc)
  haveI := lat_nonempty w
  have k3 := lat_cell (h.tm.c3 hp)
  have kl := fun q : Lat w => (hkm.kept (q.h.block _ hkm.lt (by simp))).look_none hc
  have ix := get_bt (k := c :: l) (i := 0) (c := c) rfl
  have sz := bt_size (c :: l)
  have lc : 0 < (c :: l).length := by simp
  have hl1 : (c :: l).length ≤ 100000 := by simp at hkl ⊢; omega
  generalize hrest : c :: l = rest at *
  go_enter Try.func29, Try.ntmps29
  go_wp2_with fail
  refine wp_region_lat (by kernel_rfl) (by kernel_rfl) ?_
  repeat (go_big_quiet_step (fail))
  refine wpQuiet_nil ?_
  intro _ hw'
  obtain ⟨q, hw''⟩ := hw'
  subst hw''
  have hg0 := q.h
  obtain ⟨w1, hw1⟩ : ∃ w1, w1 = q.W := ⟨_, rfl⟩
  rw [← hw1] at hg0 ⊢
  clear hw1 k3 kl q ix
  go_wp2_with fail
  refine (node_n w1 rest (by omega)).mono ?_
  rintro r w2 ⟨nk, mk, rfl, hn2, hg2⟩
  obtain ⟨hn2⟩ := hn2
  obtain ⟨hg2⟩ := hg2
  have hg := grown_none hg0 hg2
  have h2 := h.keep hg
  have hkm2 : Km w2.drew (mb p) f := hkm.kept (hg.block _ hkm.lt (by simp))
  obtain ⟨w3, hrun, km3, g3⟩ := hkm2.store c nk
  have c3 := h2.tm.c3 hp
  have ix := get_bt (k := rest) (i := 0) (c := c) (by rw [← hrest]; rfl)
  have nl := hn2.nl
  have ml := hn2.ml
  have s0 := hg0.size
  have tbl := h.lt
  have hmp : mb p < w.heap.size := h.tm.mlt hp
  have htm : tb ≠ mb p := fun e' => h.nof ⟨p, hp, .inr e'⟩
  have b3 := (g3.block tb (by have := hg.size; show tb < w2.heap.size; omega) (by simpa using htm)).trans h2.tb
  have q2 : w3.cell? ⟨tb, 2, none⟩ = some (.int .i64 P.length) := by simp [World.cell?, b3]
  have qf : ∀ i, w3.frozen? ⟨tb, i, none⟩ = false := fun i => by simp [World.frozen?, b3]
  replace hrun : Hid _ := ⟨hrun⟩
  replace g3 : Hid _ := ⟨g3⟩
  replace km3 : Hid _ := ⟨km3⟩
  clear hg0 hg2
  have hrun' := hrun.out
  go_wp2_with fail
  go_region
  clear hrun' hrun
  go_wp2
  go_ret2
  obtain ⟨g3⟩ := g3
  obtain ⟨km3⟩ := km3
  have g4 := grown_setCell w3 ⟨tb, 2, none⟩ (Value.int IntKind.i64 ((P.length : Int) + 1))
  have s2 := hg.size
  have s3 : w2.heap.size ≤ w3.heap.size := g3.size
  have old : ∀ j, j < w.heap.size → j ≠ mb p → j ≠ tb → (w3.setCell ⟨tb, 2, none⟩ (Value.int IntKind.i64 ((P.length : Int) + 1))).heap[j]? = w.heap[j]? := fun j hj h1 h3 =>
    (g4.block j (by omega) (by simpa using h3)).trans ((g3.block j (by show j < w2.heap.size; omega) (by simpa using h1)).trans (hg.block j hj (by simp)))
  have nw : ∀ (j : Nat) (o : Obj), w1.heap.size ≤ j → w2.heap[j]? = some o → (w3.setCell ⟨tb, 2, none⟩ (Value.int IntKind.i64 ((P.length : Int) + 1))).heap[j]? = some o := fun j o hj ho => by
    have hjl := (Array.getElem?_eq_some_iff.1 ho).1
    exact (g4.block j (by omega) (by simp; omega)).trans ((g3.block j hjl (by simp; omega)).trans ho)
  have s1 : w.heap.size ≤ w1.heap.size := s0
  have nof : ∀ j, w1.heap.size ≤ j → ¬ Fp P nb mb j := fun j hj hf => by have := h.tm.flt hf; omega
  have hA' : AddK P p (p ++ rest) c := hA
  have tm4 := h.tm.addk (w' := w3.setCell ⟨tb, 2, none⟩ (Value.int IntKind.i64 ((P.length : Int) + 1))) hA' rfl hkl hf (b := nk) (m := mk)
    (km3.kept (g4.block _ km3.lt (by simpa using htm.symm))) (nw nk _ nl hn2.bn) (Km.made (nw mk _ ml hn2.bm)) (nof nk nl) (nof mk ml) (fun j hj hne => old j (h.tm.flt hj) hne fun e' => h.nof (e' ▸ hj))
  have kne : ([] : K) ≠ p ++ rest := by
    rw [← hrest]
    simp
  refine ⟨_, _, _, _, p ++ rest, ?_, ⟨⟨tm4, ?_⟩, by simp, List.prefix_rfl, by simp at lc ⊢; omega, fun key hk hC => ?_, fset_other _ _ kne, ?_, ?_, by simp⟩⟩
  · rw [fset_same]
    simp [bt_nil]
  · rw [fset_other _ _ kne]
    exact heap_set b3 2 _
  · intro x hx
    rcases List.mem_cons.1 hx with rfl | hx
    · exact .inr (.inl hk)
    · exact hC x hx
  · refine ((Kp.of0 hg).grown (grown_drew w2) (by simp)).grown g3 ?_ |>.grown g4 ?_
    · intro j hj; cases hj; exact .inl (.inr ⟨p, hp, .inr rfl⟩)
    · intro j hj; cases hj; exact .inl (.inl rfl)
  · rintro j ⟨x, hx, hj⟩
    rcases List.mem_cons.1 hx with rfl | hx
    · rw [fset_same, fset_same] at hj
      rcases hj with rfl | rfl
      · exact .inr (by omega)
      · exact .inr (by omega)
    · have : x ≠ p ++ rest := fun e' => hA'.new (e' ▸ hx)
      rw [fset_other _ _ this, fset_other _ _ this] at hj
      exact .inl ⟨x, hx, hj⟩
end Go.Proofs.Ytpcdmjalfabbmaa
