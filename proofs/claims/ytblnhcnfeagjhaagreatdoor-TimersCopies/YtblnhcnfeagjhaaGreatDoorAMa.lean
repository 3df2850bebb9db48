/- Timers as values: Clone, apart, isAction, Right, After. -/
import Derived.Test.YtblnhcnfeagjhaaGreatDoorAen
import Derived.Test.YtblnhcnfeagjhaaGreatDoorVBase
import Derived.Lib.LazyBuf
namespace Go.Proofs.YtblnhcnfeagjhaaGreatDoor
open Go.RowKit Go.IntWalk Go.Maps Go.Shelf
set_option linter.unusedVariables false
/-- A timer: its name, version, deadline, period, the slice of its steps, its steps. -/
structure Tmr where
  nm : ByteArray
  vr : Int
  at_ : Int
  ev : Int
  v : Value
  xs : List Sp
def Tmr.val (x : Tmr) : Value := .agg #[.string x.nm, .int .i64 x.vr, .int .u64 x.at_, .int .u64 x.ev, x.v]
def Tmr.cells (x : Tmr) : List Value := [.string x.nm, .int .i64 x.vr, .int .u64 x.at_, .int .u64 x.ev, x.v]
theorem Sps.kept {n₀ : Nat} {w w' : World} {v : Value} {xs : List Sp} (h : Sps n₀ w v xs) (hb : ∀ k, v.ownBlock = some k → k < n₀ → w'.heap[k]? = w.heap[k]?) : Sps n₀ w' v xs := by
  rcases h with h | ⟨b, off, cap, h1, h2, h3, h4, h5⟩
  · exact .inl h
  · refine .inr ⟨b, off, cap, h1, h2, h3, h4, fun j x hx => ?_⟩
    obtain ⟨k1, k2, k3, k4, k5⟩ := h5 j x hx
    have e := hb b (by rw [h1]; rfl) h2
    exact ⟨k1, (World.cell?_of_block e).trans k2, (World.cell?_of_block e).trans k3, (World.cell?_of_block e).trans k4, (World.cell?_of_block e).trans k5⟩
theorem Sps.mono {n₀ n₁ : Nat} {w : World} {v : Value} {xs : List Sp} (h : Sps n₀ w v xs) (hn : n₀ ≤ n₁) : Sps n₁ w v xs := by
  rcases h with h | ⟨b, off, cap, h1, h2, h3⟩
  · exact .inl h
  · exact .inr ⟨b, off, cap, h1, by omega, h3⟩
def Sp.cells (x : Sp) : List Value := [.int .i64 x.kd, .string (bt x.ky), .string (bt x.vl), .int .i64 x.n]
def cellsS (xs : List Sp) : List Value := xs.flatMap Sp.cells
theorem cellsS_len (xs : List Sp) : (cellsS xs).length = xs.length * 4 := by
  induction xs with
  | nil => rfl
  | cons a r ih => simp only [cellsS, List.flatMap_cons, List.length_append, List.length_cons] at ih ⊢; rw [ih]; simp [Sp.cells]; omega
theorem cellsS_at {xs : List Sp} {j : Nat} {x : Sp} (h : xs[j]? = some x) (i : Nat) (hi : i < 4) : (cellsS xs)[j * 4 + i]? = x.cells[i]? := by
  induction xs generalizing j with
  | nil => simp at h
  | cons a r ih =>
    cases j with
    | zero =>
      simp at h
      subst h
      have : (cellsS (a :: r)) = a.cells ++ cellsS r := rfl
      rw [this, List.getElem?_append_left (by simp [Sp.cells]; omega)]
      simp
    | succ j =>
      have : (cellsS (a :: r)) = a.cells ++ cellsS r := rfl
      rw [this, List.getElem?_append_right (by simp [Sp.cells]; omega)]
      have e : (j + 1) * 4 + i - a.cells.length = j * 4 + i := by simp [Sp.cells]; omega
      rw [e]
      exact ih (by simpa using h)
theorem sps_of_own {W : World} {base : Nat} {v : Value} {xs : List Sp} (h : W.ownsRow base 47 4 v xs.length (cellsS xs)) (hok : ∀ x ∈ xs, x.ok) : Sps W.heap.size W v xs := by
  rcases id h.2 with ⟨rfl, h0⟩ | ⟨g, cap, cur, rfl, hb, hg, hn, hm, hs, ht⟩
  · exact .inl ⟨.inl rfl, List.eq_nil_of_length_eq_zero h0⟩
  · refine .inr ⟨g, 0, cap, rfl, (Array.getElem?_eq_some_iff.1 hg).1, hn, hm, fun j x hj => ⟨hok x (List.mem_of_getElem? hj), ?_⟩⟩
    have key : ∀ i (u : Value), x.cells[i]? = some u → i < 4 → W.cell? ⟨g, 0 + j * 4 + i, none⟩ = some u := fun i u hu hi => by
      have := h.cells (g := g) rfl (j * 4 + i) u (by rw [cellsS_at hj i hi]; exact hu)
      rw [addr_add] at this
      rw [show 0 + j * 4 + i = 0 + (j * 4 + i) by omega]
      exact this
    exact ⟨key 0 _ rfl (by omega), key 1 _ rfl (by omega), key 2 _ rfl (by omega), key 3 _ rfl (by omega)⟩
theorem eql30 (w : World) (a : Option Addr) (l c : Nat) : (binOp .eql 30 (.slice a l c) (.slice none 0 0)).run Tryz.prog w = .ok (.bool a.isNone) w := Lib.run_eql_slice_nil w 30 47 a l c _ _ Tryz.underlying30
theorem info47 : (Tryz.prog.info? 47).map (fun i => (i.zero, i.size, i.bytes)) = some (some (.agg #[.int .i64 0, .string { data := #[] }, .string { data := #[] }, .int .i64 0]), 4, 48) := by kernel_rfl
set_option maxRecDepth 100000 in
set_option maxHeartbeats 1000000 in
/-- slices.Clone of steps. -/
theorem clone_any (w : World) {v : Value} {xs : List Sp} (h : Sps w.heap.size w v xs) (hl : xs.length ≤ 100000) :
    Calls Tryz.prog 60 #[v] w fun r w' => ∃ v', r = .returned v' ∧ Sps w'.heap.size w' v' xs ∧ (∀ k, v'.ownBlock = some k → w.heap.size ≤ k ∧ k < w'.heap.size) ∧ w.grownBy w' none := by
  obtain ⟨rfl | ⟨ad, cap, rfl⟩, rfl⟩ | ⟨b, off, cap, rfl, hb, hxc, hcm, hc⟩ := id h
  · have h1 := eql30 w none 0 0
    simp only [Option.isNone] at h1
    go_enter Tryz.func60, Tryz.ntmps60
    go_wp2
    go_ret
    exact ⟨_, rfl, .inl ⟨.inl rfl, rfl⟩, fun k e => by simp [Value.ownBlock] at e, grown_refl _⟩
  · have h1 := eql30 w (some ad) 0 cap
    simp only [Option.isNone] at h1
    go_enter Tryz.func60, Tryz.ntmps60
    go_wp2
    go_ret
    exact ⟨_, rfl, .inl ⟨.inr ⟨_, _, rfl⟩, rfl⟩, fun k e => by simp [Value.ownBlock] at e; subst e; simp, World.grownBy_alloc _ _ _⟩
  · have h1 := eql30 w (some ⟨b, off, none⟩) xs.length cap
    simp only [Option.isNone] at h1
    obtain ⟨i0, hi, hz0, hz1, hz2⟩ := info_parts info47
    have A : Hid (∀ j u, (cellsS xs)[j]? = some u → w.cell? ⟨b, off + j, none⟩ = some u) := ⟨fun j u hj => by
      have hjl : j < xs.length * 4 := by rw [← cellsS_len]; exact (List.getElem?_eq_some_iff.1 hj).1
      obtain ⟨x, hx⟩ : ∃ x, xs[j / 4]? = some x := ⟨_, List.getElem?_eq_getElem (by omega)⟩
      have e := cellsS_at hx (j % 4) (by omega)
      rw [show j / 4 * 4 + j % 4 = j by omega, hj] at e
      obtain ⟨_, k0, k1, k2, k3⟩ := hc _ _ hx
      have hm : j % 4 = 0 ∨ j % 4 = 1 ∨ j % 4 = 2 ∨ j % 4 = 3 := by omega
      rcases hm with hm | hm | hm | hm <;> rw [hm] at e <;> simp only [Sp.cells, List.getElem?_cons_zero, List.getElem?_cons_succ, Option.some.injEq] at e <;> subst e
      · rw [show off + j = off + j / 4 * 4 by omega]; exact k0
      · rw [show off + j = off + j / 4 * 4 + 1 by omega]; exact k1
      · rw [show off + j = off + j / 4 * 4 + 2 by omega]; exact k2
      · rw [show off + j = off + j / 4 * 4 + 3 by omega]; exact k3⟩
    have hok : Hid (∀ x ∈ xs, x.ok) := ⟨fun x hx => by
      obtain ⟨j, hj⟩ := List.getElem?_of_mem hx
      exact (hc j x hj).1⟩
    clear hc h
    go_enter Tryz.func60, Tryz.ntmps60
    go_wp2_with (at_builtin; refine wpList_append_own _ rfl _ _ 30 rfl w.heap.size 47 i0 _ 4 48 Tryz.underlying30 hi hz0 hz1 hz2 rfl (by decide) _ _ _ rfl (World.ownsRow_made w #[] 0 (Nat.le_refl _) (Nat.zero_le _) (by simp)) ⟨b, off, none⟩ xs.length cap (cellsS xs) rfl ?qc1 ?qc2 ?qc3 ?qc4 ?qc5 ?qc6 ?_)
    case qc1 => exact cellsS_len xs
    case qc2 =>
      intro j u hj
      rw [addr_add]
      exact Lib.cell?_alloc_some _ (A.out j u hj)
    case qc3 =>
      intro u hu
      simp only [cellsS, List.mem_flatMap, Sp.cells, List.mem_cons, List.not_mem_nil, or_false] at hu
      obtain ⟨x, _, rfl | rfl | rfl | rfl⟩ := hu <;> rfl
    case qc4 => rw [Nat.zero_add]; unfold maxLen; omega
    case qc5 => rw [Nat.zero_add]; omega
    case qc6 => simp
    intro v' w1 hown hgrow hnil
    have hr : Hid _ := ⟨hown⟩
    have hg : Hid (w.grownBy w1 none) := ⟨grown_new (World.grownBy_alloc _ _ _) hgrow (by simp)⟩
    clear hown hgrow hnil A
    go_wp2
    go_ret
    have hr2 : w1.ownsRow w.heap.size 47 4 v' xs.length (cellsS xs) := by simpa using hr.out
    exact ⟨v', rfl, sps_of_own hr2 hok.out, fun k e => hr2.lt k e, hg.out⟩
end Go.Proofs.YtblnhcnfeagjhaaGreatDoor

/- apart, isAction, Right. -/
namespace Go.Proofs.YtblnhcnfeagjhaaGreatDoor
open Go.RowKit Go.IntWalk Go.Maps Go.Shelf
set_option linter.unusedVariables false
/-- A block of one's own: a struct of five cells. -/
theorem own_five {w1 : World} {B : Nat} {a b c d e : Value} {t : TypeId} (hb : w1.heap[B]? = some (.cells #[a, b, c, d, e] t (0, 0))) : w1.cell? ⟨B, 0, none⟩ = some a ∧ w1.cell? ⟨B, 1, none⟩ = some b ∧ w1.cell? ⟨B, 2, none⟩ = some c ∧ w1.cell? ⟨B, 3, none⟩ = some d ∧ w1.cell? ⟨B, 4, none⟩ = some e ∧ ∀ i, w1.frozen? ⟨B, i, none⟩ = false :=
  ⟨by simp [World.cell?, hb], by simp [World.cell?, hb], by simp [World.cell?, hb], by simp [World.cell?, hb], by simp [World.cell?, hb], fun i => by simp [World.frozen?, hb]⟩
theorem set_one {w w1 : World} (h : w.grownBy w1 none) (B o : Nat) (u : Value) (hB : w.heap.size ≤ B) : w.grownBy (w1.setCell ⟨B, o, none⟩ u) none := grown_new h (grown_setCell _ _ _) hB
theorem set_keep {w w1 : World} {k : Nat} (h : w1.heap[k]? = w.heap[k]?) (B o : Nat) (u : Value) (hB : k ≠ B) : (w1.setCell ⟨B, o, none⟩ u).heap[k]? = w.heap[k]? := (Below.heap_setCell w1 ⟨B, o, none⟩ u k (fun e => hB e)).trans h
/-- Timers' zero value, in a block. -/
abbrev zT : Obj := .cells #[.string ⟨#[]⟩, .int .i64 0, .int .u64 0, .int .u64 0, .slice none 0 0] 32
abbrev bT (nm : ByteArray) (vr a e : Int) (v : Value) : Obj := .cells #[.string nm, .int .i64 vr, .int .u64 a, .int .u64 e, v] 32
set_option maxRecDepth 100000 in
set_option maxHeartbeats 1000000 in
/-- timers.apart. -/
theorem apart_any (w : World) (x : Tmr) (h : Sps w.heap.size w x.v x.xs) (hl : x.xs.length ≤ 100000) :
    Calls Tryz.prog 38 #[x.val] w fun r w' => ∃ v', r = .returned ({ x with v := v' } : Tmr).val ∧ Sps w'.heap.size w' v' x.xs ∧ (∀ k, v'.ownBlock = some k → w.heap.size ≤ k ∧ k < w'.heap.size) ∧ w.grownBy w' none := by
  obtain ⟨nm, vr, a, e, v, xs⟩ := x
  simp only [Tmr.val] at h hl ⊢
  have hg0 := grown_none (World.grownBy_alloc w (bT nm vr a e v) none) (World.grownBy_alloc (w.alloc (bT nm vr a e v)) zT none)
  have h0 : Sps ((w.alloc (bT nm vr a e v)).alloc zT).heap.size ((w.alloc (bT nm vr a e v)).alloc zT) v xs := (h.keep hg0 (Nat.le_refl _)).up hg0.size
  have hcl := clone_any _ h0 hl
  have hb1 : ((w.alloc (bT nm vr a e v)).alloc zT).heap[w.heap.size]? = some (bT nm vr a e v) := by
    rw [(World.grownBy_alloc (w.alloc (bT nm vr a e v)) zT none).block w.heap.size (by simp) (by simp)]
    exact World.alloc_heap_new w _
  have hb2 : ((w.alloc (bT nm vr a e v)).alloc zT).heap[w.heap.size + 1]? = some zT := by simpa using World.alloc_heap_new (w.alloc (bT nm vr a e v)) zT
  obtain ⟨c0, c1, c2, c3, c4, f0⟩ := own_five hb1
  replace hcl : Hid _ := ⟨hcl⟩
  go_enter Tryz.func38, Tryz.ntmps38
  go_wp2_with fail
  refine hcl.out.mono ?_
  rintro r w1 ⟨v', rfl, hs, hn, hg⟩
  obtain ⟨a', c', rfl, _⟩ := hs.shape
  clear c0 c1 c2 c3 c4 f0 hcl
  have hb1 := (hg.block w.heap.size (by simp; omega) (by simp)).trans hb1
  have hb2 := (hg.block (w.heap.size + 1) (by simp) (by simp)).trans hb2
  obtain ⟨c0, c1, c2, c3, c4, f0⟩ := own_five hb1
  obtain ⟨d0, d1, d2, d3, d4, f1⟩ := own_five hb2
  have hgw : Hid _ := ⟨grown_none hg0 hg⟩
  replace hs : Hid _ := ⟨hs⟩
  replace hn : Hid _ := ⟨hn⟩
  clear hg hg0 h0 h hb1 hb2
  go_wp2
  refine bodyPost_ret (v := .agg #[.string nm, .int .i64 vr, .int .u64 a,   .int .u64 e, .slice a' xs.length c']) (by rw [results_cell1 rfl]; go_simp) rfl ?_
  have hgs := hgw.out.size
  have hK : ∀ (w2 : World), w1.grownBy w2 (some w.heap.size) → w.grownBy w2 none := fun w2 h2 => grown_new hgw.out h2 (Nat.le_refl _)
  refine ⟨_, rfl, ?_, fun k e => ?_, ?_⟩
  · refine Sps.up (n₀ := w1.heap.size) ?_ (by simp)
    refine hs.out.kept fun k e hk => ?_
    have := hn.out k e
    simp at this
    iterate 6 refine set_keep ?_ _ _ _ (by omega)
    rfl
  · have := hn.out k e
    simp at this
    exact ⟨by omega, by simp; omega⟩
  · iterate 6 refine set_one ?_ _ _ _ (by omega)
    exact hgw.out
end Go.Proofs.YtblnhcnfeagjhaaGreatDoor

/- timers.After. -/
namespace Go.Proofs.YtblnhcnfeagjhaaGreatDoor
open Go.RowKit Go.IntWalk Go.Maps Go.Shelf
set_option linter.unusedVariables false
theorem info32s : (Tryz.prog.info? 32).map (·.size) = some 5 := by kernel_rfl
/-- A timer stored in a block of one's own. -/
theorem wpList_store5 {ops : Array Oper} {rest : List Oper} {o : Oper} {a : Act} {w : World} {Q : Exit → Act → World → Prop} (hgd : o.guard = none) (x y : Operand) (ho : o.op = .store 32 x y) (hd : o.dst = none) (g : Nat) (cells : Array Value) (hx : a.eval x = .pointer (some ⟨g, 0, none⟩)) (hy : a.eval y = .agg cells)
    {old : Array Value} (hg : w.heap[g]? = some (.cells old 32 (0, 0))) (hs : old.size = 5) (hc : cells.size = 5) (h1 : cells.toList.all (·.oneCell') = true)
    (hK : ∀ w', w'.heap[g]? = some (.cells cells 32 (0, 0)) → w.grownBy w' (some g) → wpList Tryz.prog ops Q rest a w') : wpList Tryz.prog ops Q (o :: rest) a w := by
  refine wpList_store_row hgd 32 x y ho g cells hx hy 32 old hg (by rw [info32s, hc]) (by rw [hs, hc]) (by simpa using h1) ?_
  rw [hd]
  exact hK _ (setRow_heap w g old cells 32 (0, 0) hg) ⟨rfl, rfl, rfl, by simp, fun k _ hk => setRow_other w g k cells fun e => hk (by rw [e])⟩
/-- Does a timer that has fired come again? -/
def aft (x : Tmr) (now : Int) : Bool := V.isN x.at_ x.ev now && decide (V.nxt x.at_ x.ev now ≤ 4611686018427387904)
def zTv : Value := .agg #[.string ⟨#[]⟩, .int .i64 0, .int .u64 0, .int .u64 0, .slice none 0 0]
set_option maxRecDepth 100000 in
set_option maxHeartbeats 4000000 in
theorem after_any (w : World) (x : Tmr) (hx : Sps w.heap.size w x.v x.xs) (hl : x.xs.length ≤ 100000) (ha : V.U x.at_) (he : V.U x.ev) {now : Int} (hn : V.U now) :
    Calls Tryz.prog 29 #[x.val, .int .u64 now] w fun r w' => w.grownBy w' none ∧ (aft x now = false → r = .returned (.tuple #[zTv, .bool false])) ∧
      (aft x now = true → ∃ v', r = .returned (.tuple #[({ x with at_ := V.nxt x.at_ x.ev now, v := v' } : Tmr).val, .bool true]) ∧ Sps w'.heap.size w' v' x.xs ∧ ∀ k, v'.ownBlock = some k → w.heap.size ≤ k ∧ k < w'.heap.size) := by
  obtain ⟨nm, vr, a, ev, v, xs⟩ := x
  simp only [Tmr.val, aft] at hx hl ha he ⊢
  have hg0 := grown_none (World.grownBy_alloc w (bT nm vr a ev v) none) (World.grownBy_alloc (w.alloc (bT nm vr a ev v)) zT none)
  have hb1 : ((w.alloc (bT nm vr a ev v)).alloc zT).heap[w.heap.size]? = some (bT nm vr a ev v) := by
    rw [(World.grownBy_alloc (w.alloc (bT nm vr a ev v)) zT none).block w.heap.size (by simp) (by simp)]
    exact World.alloc_heap_new w _
  have hb2 : ((w.alloc (bT nm vr a ev v)).alloc zT).heap[w.heap.size + 1]? = some zT := by simpa using World.alloc_heap_new (w.alloc (bT nm vr a ev v)) zT
  have hnx := V.next_any a ev now ha he hn ((w.alloc (bT nm vr a ev v)).alloc zT)
  obtain ⟨q, hq⟩ : ∃ q, Hid (V.nxt a ev now = q) := ⟨_, ⟨rfl⟩⟩
  obtain ⟨b, hb⟩ : ∃ b, Hid (V.isN a ev now = b) := ⟨_, ⟨rfl⟩⟩
  rw [hq.out, hb.out] at hnx
  rw [hq.out, hb.out]
  replace hnx : Hid _ := ⟨hnx⟩
  obtain ⟨c0, c1, c2, c3, c4, f0⟩ := own_five hb1
  go_enter Tryz.func29, Tryz.ntmps29
  go_wp2_with fail
  refine hnx.out.mono ?_
  rintro r w1 ⟨rfl, hB⟩
  clear c0 c1 c2 c3 c4 f0 hnx
  have hg1 : ((w.alloc (bT nm vr a ev v)).alloc zT).grownBy w1 none := grown_of hB
  have hb1 := (hg1.block w.heap.size (by simp; omega) (by simp)).trans hb1
  have hb2 := (hg1.block (w.heap.size + 1) (by simp) (by simp)).trans hb2
  have hgw := grown_none hg0 hg1
  by_cases hab : b = true ∧ q ≤ 4611686018427387904
  · obtain ⟨rfl, hq2⟩ := hab
    have q1 : decide (q > 4611686018427387904) = false := by simp; omega
    have q2 : decide (4611686018427387904 < q) = false := by simp; omega
    have q3 : decide (q ≤ 4611686018427387904) = true := by simpa using hq2
    obtain ⟨c0, c1, c2, c3, c4, f0⟩ := own_five hb1
    have hap := apart_any w1 ⟨nm, vr, a, ev, v, xs⟩ ((hx.keep hgw (Nat.le_refl _)).up hgw.size) hl
    simp only [Tmr.val] at hap
    replace hap : Hid _ := ⟨hap⟩
    replace hg1 : Hid _ := ⟨hg1⟩
    replace hgw : Hid _ := ⟨hgw⟩
    go_wp2_with fail
    refine hap.out.mono ?_
    rintro r w2 ⟨v', rfl, hs, hnv, hg2⟩
    obtain ⟨a', c', rfl, _⟩ := hs.shape
    clear c0 c1 c2 c3 c4 f0 hap
    have hsz1 := hgw.out.size
    have hsz1' := hg1.out.size
    simp at hsz1'
    have hb1 := (hg2.block w.heap.size (by omega) (by simp)).trans hb1
    have hb2 := (hg2.block (w.heap.size + 1) (by omega) (by simp)).trans hb2
    replace hs : Hid _ := ⟨hs⟩
    replace hnv : Hid _ := ⟨hnv⟩
    have hg3 : Hid _ := ⟨grown_none hgw.out hg2⟩
    clear hg2 hx
    have hsz2 := hg3.out.size
    have hl2 : w.heap.size + 1 < w2.heap.size := by have := hgw.out.size; have := (Array.getElem?_eq_some_iff.1 hb2).1; omega
    go_wp2_with (refine wpList_store5 rfl _ _ rfl rfl w.heap.size #[.string nm, .int .i64 vr, .int .u64 a, .int .u64 ev, .slice a' xs.length c'] rfl rfl hb1 rfl rfl rfl ?_; intro w3 hb3 hg4; obtain ⟨c0, c1, c2, c3, c4, f0⟩ := own_five hb3; obtain ⟨d0, d1, d2, d3, d4, f1⟩ := own_five ((hg4.block (w.heap.size + 1) hl2 (by simp)).trans hb2))
    refine bodyPost_ret (v := .tuple #[.agg #[.string nm, .int .i64 vr, .int .u64 q, .int .u64 ev, .slice a' xs.length c'], .bool true]) (by rw [results_cell_tmp rfl]; go_simp) rfl ?_
    refine ⟨?_, fun h => absurd h (by simp [hq2]), fun _ => ⟨_, rfl, ?_, fun k e => ?_⟩⟩
    · iterate 6 refine set_one ?_ _ _ _ (by omega)
      exact grown_new hg3.out hg4 (Nat.le_refl _)
    · have hs4 := hg4.size
      refine Sps.up (n₀ := w2.heap.size) ?_ (by simp; omega)
      refine hs.out.kept fun k e hk => ?_
      have := hnv.out k e
      iterate 6 refine set_keep ?_ _ _ _ (by omega)
      exact hg4.block k hk (by simp; omega)
    · have := hnv.out k e
      have hs4 := hg4.size
      exact ⟨by omega, by simp; omega⟩
  · have hbq : b = false ∨ (b = true ∧ 4611686018427387904 < q) := by
      cases b
      · exact .inl rfl
      · exact .inr ⟨rfl, by simp at hab; omega⟩
    obtain ⟨d0, d1, d2, d3, d4, f1⟩ := own_five hb2
    replace hgw : Hid _ := ⟨hgw⟩
    have hfin : ∀ (w3 : World), w1.grownBy w3 (some (w.heap.size + 1)) → w.grownBy w3 none := fun w3 h => grown_new hgw.out h (by omega)
    replace hfin : Hid _ := ⟨hfin⟩
    clear hg1 hb1 hb2 hx hg0
    rcases hbq with rfl | ⟨rfl, hq2⟩
    · go_wp2
      refine bodyPost_ret (v := .tuple #[zTv, .bool false]) (by rw [results_cell_tmp rfl]; go_simp; rfl) rfl ?_
      refine ⟨?_, fun _ => rfl, fun h => absurd h (by simp)⟩
      iterate 5 refine set_one ?_ _ _ _ (by omega)
      exact hgw.out
    · have q1 : decide (q > 4611686018427387904) = true := by simp; omega
      have q2 : decide (4611686018427387904 < q) = true := by simp; omega
      have q3 : ¬ q ≤ 4611686018427387904 := by omega
      go_wp2
      refine bodyPost_ret (v := .tuple #[zTv, .bool false]) (by rw [results_cell_tmp rfl]; go_simp; rfl) rfl ?_
      refine ⟨?_, fun _ => rfl, fun h => absurd h (by simp [q3])⟩
      iterate 5 refine set_one ?_ _ _ _ (by omega)
      exact hgw.out
end Go.Proofs.YtblnhcnfeagjhaaGreatDoor

/- timers.isAction, Right. -/
namespace Go.Proofs.YtblnhcnfeagjhaaGreatDoor
open Go.RowKit Go.IntWalk Go.Maps Go.Shelf
set_option linter.unusedVariables false
set_option linter.unusedSimpArgs false
set_option maxRecDepth 100000 in
set_option maxHeartbeats 1000000 in
theorem isAct_any (w : World) (h : Dr w) {v : Value} {xs : List Sp} (hx : Sps w.heap.size w v xs) {b : Bool} (hb : Hid (decide (wrE xs = 0) = b)) : Calls Tryz.prog 39 #[v] w fun e w' => e = .returned (.bool b) ∧ w.grownBy w' none := by
  obtain ⟨r, hr⟩ : ∃ r, Hid (wrE xs = r) := ⟨_, ⟨rfl⟩⟩
  have hc := encA_any w h hx hr
  have hbr : (r == 0) = b := by rw [← hb.out, hr.out]; rfl
  go_enter Tryz.func39, Tryz.ntmps39
  go_wp2_with fail
  refine hc.mono ?_
  rintro e w1 ⟨u, rfl, _, hg⟩
  go_wp2
  go_ret
  exact ⟨by first | rfl | (congr 2), hg⟩
/-- Is a timer right? -/
def tR (x : Tmr) : Bool := !(x.nm.size == 0) && decide (x.nm.size ≤ 16) && decide (1 ≤ x.vr) && decide (x.vr ≤ 1099511627776) && decide (x.at_ ≤ 4611686018427387904) && decide (x.ev ≤ 4611686018427387904) && decide (wrE x.xs = 0)
theorem tR_iff (x : Tmr) : tR x = true ↔ (1 ≤ x.nm.size ∧ x.nm.size ≤ 16) ∧ (1 ≤ x.vr ∧ x.vr ≤ 1099511627776) ∧ x.at_ ≤ 4611686018427387904 ∧ x.ev ≤ 4611686018427387904 ∧ wrE x.xs = 0 := by
  simp only [tR, Bool.and_eq_true, Bool.not_eq_true', beq_eq_false_iff_ne, decide_eq_true_eq, ne_eq]
  omega
set_option maxRecDepth 100000 in
set_option maxHeartbeats 2000000 in
/-- timers.Right. -/
theorem tright_any (w : World) (h : Dr w) (x : Tmr) (hx : Sps w.heap.size w x.v x.xs) {r : Bool} (hr : Hid (tR x = r)) : Calls Tryz.prog 14 #[x.val] w fun e w' => e = .returned (.bool r) ∧ w.grownBy w' none := by
  obtain ⟨nm, vr, a, ev, v, xs⟩ := x
  obtain ⟨k, rfl⟩ : ∃ k, nm = bt k := ⟨_, (bt_of nm).symm⟩
  have z1 := bt_size k
  simp only [Tmr.val] at hx ⊢
  have hga := World.grownBy_alloc w (bT (bt k) vr a ev v) none
  obtain ⟨b, hb⟩ : ∃ b, Hid (decide (wrE xs = 0) = b) := ⟨_, ⟨rfl⟩⟩
  have hc := isAct_any _ (h.keep hga) ((hx.keep hga (Nat.le_refl _)).up hga.size) hb
  replace hc : Hid _ := ⟨hc⟩
  replace hga : Hid _ := ⟨hga⟩
  clear hx h
  go_enter Tryz.func14, Tryz.ntmps14
  go_wp2_with (go_at_call 39; refine hc.out.mono ?_; rintro e w1 ⟨rfl, hg1⟩; replace hg1 : Hid _ := ⟨grown_none hga.out hg1⟩)
  all_goals
    go_ret
    refine ⟨?_, by first | exact hg1.out | exact hga.out⟩
    rw [← hr.out]
    congr 2
    simp only [tR, z1, ← hb.out]
    simp only [bt_toList, beq_iff_eq, beq_eq_false_iff_ne, ne_eq, List.isEmpty_iff] at *
    have g1 : (k.length : Int) ≤ 16 ↔ k.length ≤ 16 := by omega
    have g2 : k.length = 0 ↔ k = [] := List.length_eq_zero_iff
    try simp_all
    try (first | (intros; omega) | (cases k <;> simp))
end Go.Proofs.YtblnhcnfeagjhaaGreatDoor
