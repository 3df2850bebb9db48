/- A node parted. -/
import Derived.Test.YtpcdmjalfabbmaaTm
import Derived.BigRegion
import Derived.Deep.CutBlock
import Derived.Deep.DeepCutAuto
namespace Go.Proofs.Ytpcdmjalfabbmaa
open Go.RowKit Go.IntWalk Go.Maps
set_option linter.unusedVariables false
/-- A new node lies there. -/
structure Newn (w w' : World) (k : K) (nb mb : Nat) : Prop where
  nl : w.heap.size ≤ nb
  ml : w.heap.size ≤ mb
  bn : w'.heap[nb]? = some (nobj k (bt []) false mb)
  bm : w'.heap[mb]? = some (.map #[] 0)
theorem Newn.later {w w1 w2 : World} {k : K} {nb mb : Nat} (h : Newn w w1 k nb mb) (hg : w1.grownBy w2 none) : Newn w w2 k nb mb :=
  ⟨h.nl, h.ml, (hg.block nb (Array.getElem?_eq_some_iff.1 h.bn).1 (by simp)).trans h.bn, (hg.block mb (Array.getElem?_eq_some_iff.1 h.bm).1 (by simp)).trans h.bm⟩
theorem node_n (w : World) (k : K) (hk : k.length ≤ 1000000) : Calls Try.prog 28 #[.string (bt k)] w fun r w' => ∃ nb mb, r = .returned (ptr nb) ∧ Hid (Newn w w' k nb mb) ∧ Hid (w.grownBy w' none) :=
  (node_any w k hk).mono fun r w' ⟨nb, mb, h1, h2, h3, h4, h5, h6⟩ => ⟨nb, mb, h1, ⟨⟨h3, h2, h5, h4⟩⟩, ⟨h6⟩⟩
set_option maxRecDepth 100000 in
set_option maxHeartbeats 1000000 in
theorem part_any (w : World) (nk : Nat) (l1 l2 : K) (v : ByteArray) (b : Bool) (m : Nat) (c : UInt8) (hc : l2[0]? = some c) (h1 : l1.length ≤ 100000) (h2 : l2.length ≤ 100000) (hb : w.heap[nk]? = some (nobj (l1 ++ l2) v b m)) :
    Calls Try.prog 40 #[ptr nk, .int .i64 l1.length] w fun r w' => r = .returned (.tuple #[]) ∧ ∃ um lo, w.heap.size ≤ um ∧ w.heap.size ≤ lo ∧ w'.heap[nk]? = some (nobj l1 (bt []) false um) ∧ Km w' um (upd (fun _ => none) c (some lo)) ∧ w'.heap[lo]? = some (nobj l2 v b m) ∧ w.grownBy w' (some nk) := by
  have k0 : w.cell? ⟨nk, 0, none⟩ = some (.string (bt (l1 ++ l2))) := by simp [World.cell?, hb]
  have hl : (l1 ++ l2).length = l1.length + l2.length := List.length_append
  have ht : (bt (l1 ++ l2)).extract 0 l1.length = bt l1 := by rw [bt_take]; simp
  have hd : (bt (l1 ++ l2)).extract l1.length (l1.length + l2.length) = bt l2 := by rw [← hl, show (l1 ++ l2).length = (bt (l1 ++ l2)).size from (bt_size _).symm, bt_drop]; simp
  have sl : (bt (l1 ++ l2)).size = l1.length + l2.length := by rw [bt_size, hl]
  have i0 : (0 : Int) ≤ (l1.length : Int) := by omega
  have i1 : (l1.length : Int) ≤ (l1.length : Int) + (l2.length : Int) := by omega
  clear hl
  generalize bt (l1 ++ l2) = s at *
  go_enter Try.func40, Try.ntmps40
  go_wp2_with fail
  go_region_held3 (fun w' => w'.cell? ⟨nk, 0, none⟩ = some (.string s))
    (first
      | go_keep
      | exact grown_cell hg.out (by assumption))
    (first
      | (go_at_call 28
         refine (node_n _ _ (by omega)).mono ?_
         rintro r w2 ⟨nb, mb, rfl, hn, hg⟩))
  rename_i w1 lo lm hn1 hg1 hS
  clear hS ht hd sl i0 i1 k0
  obtain ⟨hn1⟩ := hn1
  obtain ⟨hg1⟩ := hg1
  obtain ⟨hn2⟩ := hn
  obtain ⟨hg2⟩ := hg
  have hg : w.grownBy w2 none := grown_none (grown_none (grown_drew w) hg1) hg2
  have hlo := hn1.later hg2
  have hkl : nk < w.heap.size := (Array.getElem?_eq_some_iff.1 hb).1
  have hbk := (hg.block nk hkl (by simp)).trans hb
  have e1 := hn1.nl
  have e2 := hn1.ml
  have e3 := hn2.nl
  have e4 := hn2.ml
  have e5 := hg1.size
  have e5' : w.drew.heap.size = w.heap.size := rfl
  have e6 := (Array.getElem?_eq_some_iff.1 hn1.bn).1
  have k1 : w2.cell? ⟨nk, 1, none⟩ = some (.string v) := by simp [World.cell?, hbk]
  have k2 : w2.cell? ⟨nk, 2, none⟩ = some (.bool b) := by simp [World.cell?, hbk]
  have k3 : w2.cell? ⟨nk, 3, none⟩ = some (.map (some m)) := by simp [World.cell?, hbk]
  have o1 : ∃ x, w2.cell? ⟨lo, 1, none⟩ = some x := ⟨_, by simp [World.cell?, hlo.bn]; rfl⟩
  have o2 : ∃ x, w2.cell? ⟨lo, 2, none⟩ = some x := ⟨_, by simp [World.cell?, hlo.bn]; rfl⟩
  have o3 : ∃ x, w2.cell? ⟨lo, 3, none⟩ = some x := ⟨_, by simp [World.cell?, hlo.bn]; rfl⟩
  obtain ⟨x1, o1⟩ := o1
  obtain ⟨x2, o2⟩ := o2
  obtain ⟨x3, o3⟩ := o3
  have f1 : ∀ i, w2.frozen? ⟨lo, i, none⟩ = false := fun i => by simp [World.frozen?, hlo.bn]
  have hne : lo ≠ nk := by omega
  have hne2 : nk ≠ lo := by omega
  have hL : Hid (Newn w.drew w2 l2 lo lm ∧ Newn w1 w2 l1 nb mb ∧ w.grownBy w2 none ∧ w2.heap[nk]? = some (nobj (l1 ++ l2) v b m) ∧ w.heap.size ≤ lo ∧ lo < nb ∧ w.heap.size ≤ mb ∧ nk < w.heap.size) := ⟨hlo, hn2, hg, hbk, by omega, by omega, by omega, hkl⟩
  clear hn1 hg1 hn2 hg2 hg hlo hkl hbk e1 e2 e3 e4 e5 e5' e6 hb
  go_wp2_with fail
  go_region
  obtain ⟨hlo, hup, hg, hbk, q1, q2, q3, hkl⟩ := hL.out
  generalize hw3 : (((w2.setCell ⟨lo, 1, none⟩ (Value.string v)).setCell ⟨lo, 2, none⟩ (Value.bool b)).setCell ⟨lo, 3, none⟩ (Value.map (some m))).drew = w3
  have g3 : w2.grownBy w3 (some lo) := by
    rw [← hw3]
    exact ((((grown_setCell w2 ⟨lo, 1, none⟩ (Value.string v)).trans (grown_setCell _ ⟨lo, 2, none⟩ (Value.bool b))).trans (grown_setCell _ ⟨lo, 3, none⟩ (Value.map (some m))))).andThen (grown_drew _) (by simp)
  have b3 : w3.heap[lo]? = some (nobj l2 v b m) := by
    rw [← hw3]
    exact heap_set (heap_set (heap_set hlo.bn 1 (.string v)) 2 (.bool b)) 3 (.map (some m))
  clear hw3
  have ul := (Array.getElem?_eq_some_iff.1 hup.bn).1
  have ml := (Array.getElem?_eq_some_iff.1 hup.bm).1
  have lml := (Array.getElem?_eq_some_iff.1 hlo.bm).1
  have mne : mb ≠ lo := fun e' => by have := hup.bm; rw [e', hlo.bn] at this; cases this
  have mne2 : mb ≠ nb := fun e' => by have := hup.bm; rw [e', hup.bn] at this; cases this
  have bu : w3.heap[nb]? = some (nobj l1 (bt []) false mb) := (g3.block nb ul (by simp; omega)).trans hup.bn
  have bm3 : w3.heap[mb]? = some (.map #[] 0) := (g3.block mb ml (by simp; omega)).trans hup.bm
  have bk3 := (g3.block nk (Array.getElem?_eq_some_iff.1 hbk).1 (by simp; omega)).trans hbk
  obtain ⟨w4, hrun, km4, g4⟩ := (Km.made (w := w3.drew) bm3).store c lo
  have bu4 := (g4.block nb (Array.getElem?_eq_some_iff.1 bu).1 (by simp; exact mne2.symm)).trans bu
  have bl4 := (g4.block lo (Array.getElem?_eq_some_iff.1 b3).1 (by simp; exact mne.symm)).trans b3
  have bk4 := (g4.block nk (Array.getElem?_eq_some_iff.1 bk3).1 (by simp; omega)).trans bk3
  have t3 : w3.cell? ⟨nb, 3, none⟩ = some (.map (some mb)) := by simp [World.cell?, bu]
  have t0 : w3.cell? ⟨lo, 0, none⟩ = some (.string (bt l2)) := by simp [World.cell?, b3]
  have ix := get_bt hc
  have sz := bt_size l2
  have lc : 0 < l2.length := (List.getElem?_eq_some_iff.1 hc).1
  have y0 : w4.cell? ⟨nb, 0, none⟩ = some (.string (bt l1)) := by simp [World.cell?, bu4]
  have y1 : w4.cell? ⟨nb, 1, none⟩ = some (.string (bt [])) := by simp [World.cell?, bu4]
  have y2 : w4.cell? ⟨nb, 2, none⟩ = some (.bool false) := by simp [World.cell?, bu4]
  have y3 : w4.cell? ⟨nb, 3, none⟩ = some (.map (some mb)) := by simp [World.cell?, bu4]
  have z0 : w4.cell? ⟨nk, 0, none⟩ = some (.string (bt (l1 ++ l2))) := by simp [World.cell?, bk4]
  have z1 : w4.cell? ⟨nk, 1, none⟩ = some (.string v) := by simp [World.cell?, bk4]
  have z2 : w4.cell? ⟨nk, 2, none⟩ = some (.bool b) := by simp [World.cell?, bk4]
  have z3 : w4.cell? ⟨nk, 3, none⟩ = some (.map (some m)) := by simp [World.cell?, bk4]
  have zf : ∀ i, w4.frozen? ⟨nk, i, none⟩ = false := fun i => by simp [World.frozen?, bk4]
  have hL2 : Hid (w3.drew.grownBy w4 (some mb) ∧ Km w4 mb (upd (fun _ => none) c (some lo)) ∧ w4.heap[lo]? = some (nobj l2 v b m) ∧ w4.heap[nk]? = some (nobj (l1 ++ l2) v b m) ∧ w2.grownBy w3 (some lo) ∧ mb ≠ nk) := ⟨g4, km4, bl4, bk4, g3, by omega⟩
  clear g3 b3 ul ml lml mne mne2 bu bm3 bk3 km4 g4 bu4 bl4 bk4 hlo hup hg hbk q1 q2 q3 hkl hc h1 h2 k1 k2 k3 o1 o2 o3 f1
  go_wp2_with fail
  go_region
  go_wp2
  go_end0
  obtain ⟨g4, km4, bl4, bk4, g3, hmk⟩ := hL2.out
  obtain ⟨hlo, hup, hg, hbk, q1, q2, q3, hkl⟩ := hL.out
  have g5 := ((grown_setCell w4 ⟨nk, 0, none⟩ (Value.string (bt l1))).trans (grown_setCell _ ⟨nk, 1, none⟩ (Value.string (bt [])))).trans ((grown_setCell _ ⟨nk, 2, none⟩ (Value.bool false)).trans (grown_setCell _ ⟨nk, 3, none⟩ (Value.map (some mb))))
  have s4 := g4.size
  have s3 := g3.size
  have s2 := hg.size
  have s3d : w3.drew.heap.size = w3.heap.size := rfl
  refine ⟨rfl, mb, lo, q3, q1, ?_, km4.kept (g5.block mb km4.lt (by simpa using hmk)), (g5.block lo (Array.getElem?_eq_some_iff.1 bl4).1 (by simpa using hne)).trans bl4, ?_⟩
  · exact heap_set (heap_set (heap_set (heap_set bk4 0 (.string (bt l1))) 1 (.string (bt []))) 2 (.bool false)) 3 (.map (some mb))
  · refine ((grown_new (grown_none (grown_new hg g3 q1) (grown_drew w3)) g4 q3).but (some nk)).andThen g5 ?_
    intro j hj
    cases hj
    exact .inr rfl
end Go.Proofs.Ytpcdmjalfabbmaa
