/- belfrylaw10.alive. -/
import Derived.Test.YtblnhcnfeagjhaaGreatDoorDut
namespace Go.Proofs.YtblnhcnfeagjhaaGreatDoor
open Go.RowKit Go.IntWalk Go.Maps Go.Shelf
set_option linter.unusedVariables false
theorem grown_kp {w w1 w2 : World} {S : Nat → Prop} (h : w.grownBy w1 none) (k : Kp S w1 w2) (hS : ∀ j, S j → w.heap.size ≤ j) : w.grownBy w2 none :=
  ⟨k.os.trans h.os, k.tape.trans h.tape, k.output.trans h.output, Nat.le_trans h.size k.size, fun j hj _ => (k.block j (Nat.lt_of_lt_of_le hj h.size) fun e => by have := hS j e; omega).trans (h.block j hj (by simp))⟩
def nA : ByteArray := ⟨#[97]⟩
def nB : ByteArray := ⟨#[98]⟩
theorem lv1 : W.putE ⟨nA, 12⟩ (W.delN nA []) = [⟨nA, 12⟩] := by first | kernel_rfl | simp [W.putE, W.delN, Q.putE, Q.delN, W.due, W.rst, puts, nA, nB, W.ltb, Q.ltb]
theorem lv2 : W.delN nB [⟨nA, 12⟩] = [⟨nA, 12⟩] := by first | kernel_rfl | simp [W.putE, W.delN, Q.putE, Q.delN, W.due, W.rst, puts, nA, nB, W.ltb, Q.ltb]
theorem lv3 : Q.putE ⟨nB, 3⟩ (Q.delN nB (Q.delN nA [])) = [⟨nB, 3⟩] := by first | kernel_rfl | simp [W.putE, W.delN, Q.putE, Q.delN, W.due, W.rst, puts, nA, nB, W.ltb, Q.ltb]
theorem lv4 : W.due 20 [⟨nA, 12⟩] = [⟨nA, 12⟩] := by first | kernel_rfl | simp [W.putE, W.delN, Q.putE, Q.delN, W.due, W.rst, puts, nA, nB, W.ltb, Q.ltb]
theorem lv5 : W.rst 20 [⟨nA, 12⟩] = [] := by first | kernel_rfl | simp [W.putE, W.delN, Q.putE, Q.delN, W.due, W.rst, puts, nA, nB, W.ltb, Q.ltb]
theorem lv6 : puts [⟨nB, 3⟩] [⟨nA, 12⟩] = [⟨nB, 3⟩, ⟨nA, 12⟩] := by first | kernel_rfl | simp [W.putE, W.delN, Q.putE, Q.delN, W.due, W.rst, puts, nA, nB, W.ltb, Q.ltb]
theorem lv7 : V.nxt 12 5 20 = 22 := by decide +kernel
theorem lv8 : V.isN 12 5 20 = true := by decide +kernel
/-- The law's question. -/
theorem sps_nil (w : World) : Sps w.heap.size w (.slice none 0 0) [] := .inl ⟨.inl rfl, rfl⟩
def xA : Tmr := ⟨nA, 1, 12, 5, .slice none 0 0, []⟩
def xB : Tmr := ⟨nB, 2, 3, 0, .slice none 0 0, []⟩
def xC : Tmr := ⟨nA, 0, 12, 5, .slice none 0 0, []⟩
theorem rA : tR xA = true := by decide +kernel
theorem rB : tR xB = true := by decide +kernel
theorem aC : aft xC 20 = true := by decide +kernel
theorem two_of {f : Tmr → Q.E} {ts : List Tmr} {a b : Q.E} (h : ts.map f = [a, b]) : ∃ x0 x1, ts = [x0, x1] := by
  cases ts with
  | nil => simp at h
  | cons x r =>
    cases r with
    | nil => simp at h
    | cons y r =>
      cases r with
      | nil => exact ⟨x, y, rfl⟩
      | cons z r => simp at h
/-- A row of texts, its first. -/
theorem row_n {w : World} {base : Nat} {v : Value} {n : ByteArray} (h : w.ownsRow base 9 1 v 1 (cellsN [n])) : ∃ g c, v = .slice (some ⟨g, 0, none⟩) 1 c ∧ w.cell? ⟨g, 0, none⟩ = some (.string n) := by
  rcases id h.2 with ⟨e1, h0⟩ | ⟨g, c, cur, e1, hge, hg, hc⟩
  · omega
  · subst e1
    have k0 := h.cells (g := g) rfl 0 (.string n) rfl
    rw [addr_add, Nat.zero_add] at k0
    exact ⟨g, c, rfl, k0⟩
theorem row_t {w : World} {base : Nat} {v : Value} {x : Tmr} {ts : List Tmr} (h : w.ownsRow base 32 5 v (ts.length + 1) (cellsT (x :: ts))) : ∃ g c, v = .slice (some ⟨g, 0, none⟩) (ts.length + 1) c ∧ w.cell? ⟨g, 0, none⟩ = some (.string x.nm) := by
  rcases id h.2 with ⟨e1, h0⟩ | ⟨g, c, cur, e1, hge, hg, hc⟩
  · omega
  · subst e1
    have k0 := h.cells (g := g) rfl 0 (.string x.nm) rfl
    rw [addr_add, Nat.zero_add] at k0
    exact ⟨g, c, rfl, k0⟩
set_option maxRecDepth 100000 in
set_option maxHeartbeats 4000000 in
theorem alive_any (w : World) (hD : Dr w) : Calls Tryz.prog 24 #[] w fun r w' => r = .returned (.bool true) ∧ w.grownBy w' none := by
  have hnew := new_t w 10 (by omega)
  replace hD : Hid _ := ⟨hD⟩
  go_enter Tryz.func24, Tryz.ntmps24
  go_wp2_with fail
  refine hnew.mono ?_
  rintro r w1 ⟨tb, rfl, hT1, hg1⟩
  clear hnew
  have hsA := set_wait w1 (hD.out.keep hg1) hT1 (fun k hk => hk.2) xA (sps_nil w1) (fun k e => by simp [xA, Value.ownBlock] at e) (by decide) rA (by simp) (by decide)
  simp only [xA, Tmr.val] at hsA
  rw [lv1] at hsA
  replace hsA : Hid _ := ⟨hsA⟩
  replace hg1 : Hid _ := ⟨hg1⟩
  clear hT1
  go_wp2_with fail
  refine hsA.out.mono ?_
  rintro r w2 ⟨rfl, ⟨va, hT2⟩, hK2⟩
  clear hsA
  have hg2 := grown_kp hg1.out hK2 (fun j hj => hj.1)
  have hsB := set_due w2 (hD.out.keep hg2) hT2 (fun k hk => hk.elim (fun e => Nat.lt_of_lt_of_le e.2 hK2.size) fun e => e.2) xB (sps_nil w2) (fun k e => by simp [xB, Value.ownBlock] at e) (by decide) rB (by simp [delT]) (by decide)
  simp only [xB, Tmr.val] at hsB
  rw [lv2, lv3] at hsB
  replace hsB : Hid _ := ⟨hsB⟩
  replace hg2 : Hid _ := ⟨hg2⟩
  have hs1 := hg1.out.size
  have hs2 := hK2.size
  clear hT2 hK2 hg1
  go_wp2_with fail
  refine hsB.out.mono ?_
  rintro r w3 ⟨rfl, ⟨vb, hT3⟩, hK3⟩
  clear hsB
  have hg3 := grown_kp hg2.out hK3 (fun j hj => hj.elim (fun e => e.1) fun e => by omega)
  have hs3 := hK3.size
  have had := adv_t w3 hT3 (fun k hk => hk.elim (fun e => e.elim (fun e => by have := e.2; omega) fun e => by have := e.2; omega) fun e => e.2) 20 (by omega) (by omega)
  rw [lv4, lv5, lv6] at had
  replace had : Hid _ := ⟨had⟩
  replace hg3 : Hid _ := ⟨hg3⟩
  clear hT3 hK3 hg2
  go_wp2_with fail
  refine had.out.mono ?_
  rintro r w4 ⟨v4, rfl, hr4, hT4, hK4⟩
  clear had
  obtain ⟨g4, c4, rfl, q4⟩ := row_n hr4
  have hl4 := (hr4.lt g4 rfl)
  have hg4 := grown_kp hg3.out hK4 (fun j hj => hj.elim (fun e => e.elim (fun e => e.1) fun e => by omega) fun e => by omega)
  have hs4 := hK4.size
  have hdu := due_t w4 hT4 (fun k hk => hk.1.elim (fun e => e.elim (fun e => e.elim (fun e => by have := e.2; omega) fun e => by have := e.2; omega) fun e => by have := e.2; omega) fun e => e.2)
  replace hdu : Hid _ := ⟨hdu⟩
  replace hg4 : Hid _ := ⟨hg4⟩
  clear hT4 hK4 hg3 hr4
  go_wp2_with fail
  refine hdu.out.mono ?_
  rintro r w5 ⟨v5, ts, rfl, hr5, htm, _, hT5, hK5⟩
  clear hdu
  have q5 : w5.cell? ⟨g4, 0, none⟩ = some (.string nA) := (World.cell?_of_block (hK5.block g4 hl4.2 fun e => e.2 rfl)).trans q4
  have hg5 := grown_kp hg4.out hK5 (fun j hj => hj.1.elim (fun e => e.elim (fun e => e.elim (fun e => e.1) fun e => by omega) fun e => by omega) fun e => by omega)
  obtain ⟨x0, x1, rfl⟩ := two_of htm
  simp only [List.map_cons, List.map_nil, List.cons.injEq, Q.E.mk.injEq] at htm
  obtain ⟨g5, c5, rfl, p5⟩ := row_t hr5
  rw [htm.1.1] at p5
  have haf := after_any w5 xC (sps_nil w5) (by simp [xC]) ⟨by decide, by decide⟩ ⟨by decide, by decide⟩ (now := 20) ⟨by decide, by decide⟩
  simp only [xC, Tmr.val] at haf
  replace haf : Hid _ := ⟨haf⟩
  replace hg5 : Hid _ := ⟨hg5⟩
  clear hr5 htm hT5 hK5 q4 hg4
  go_wp2_with fail
  refine haf.out.mono ?_
  rintro r w6 ⟨hg6, _, hyes⟩
  obtain ⟨v6, rfl, hs6, _⟩ := hyes aC
  obtain ⟨a6, c6, rfl, _⟩ := hs6.shape
  rw [lv7]
  have q6 := grown_cell hg6 q5
  have p6 := grown_cell hg6 p5
  have hga := World.grownBy_alloc w6 (bT nA 0 22 5 (.slice a6 0 c6)) none
  have q7 := grown_cell hga q6
  have p7 := grown_cell hga p6
  clear q6 p6 q5 p5
  simp only [nA] at q7 p7 ⊢
  simp only [nB] at p7
  have hfin : Hid _ := ⟨grown_none (grown_none hg5.out hg6) hga⟩
  clear haf hyes hs6 hg6 hg5 hga
  go_wp2
  go_ret
  exact ⟨by first | rfl | decide +kernel, hfin.out⟩
end Go.Proofs.YtblnhcnfeagjhaaGreatDoor
