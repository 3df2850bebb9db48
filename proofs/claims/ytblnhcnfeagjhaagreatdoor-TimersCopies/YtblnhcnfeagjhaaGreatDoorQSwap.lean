/- line.Swap. -/
import Derived.Test.YtblnhcnfeagjhaaGreatDoorQMa
import Derived.BigRegion
namespace Go.Proofs.YtblnhcnfeagjhaaGreatDoor.Q
open Go.RowKit Go.IntWalk Go.Maps
set_option linter.unusedVariables false
theorem swp_plc {w : World} {qb bm : Nat} {rv : Value} {es : List E} (h : Ln w qb bm rv es) {D : DataW Value} (hP : Plc D es) {i j : Nat} {a b : E} (hi : es[i]? = some a) (hj : es[j]? = some b) (hij : i ≠ j) (hM : Mp w bm D) :
    Plc ((D.put (ky b.n) (.lit (.int .i64 (i : Int)))).put (ky a.n) (.lit (.int .i64 (j : Int)))) (swp es i j a b) := by
  have hnab : a.n ≠ b.n := fun e => hij (h.nodup hi hj e)
  have hka : ky b.n ≠ ky a.n := fun e => hnab (ky_inj e).symm
  have hI := hM.isMap
  have ht := hM.tidy
  have hh : ∀ n : ByteArray, Maps.has ((D.put (ky b.n) (.lit (.int .i64 (i : Int)))).put (ky a.n) (.lit (.int .i64 (j : Int)))) (ky n) = true ↔ Maps.has D (ky n) = true := by
    intro n
    by_cases e1 : n = a.n
    · subst e1
      rw [Maps.has_put_same (hI.put _ _) (ky_key _), (hP.has i a hi).1]
    · rw [Maps.has_put_other (fun e => e1 (ky_inj e))]
      by_cases e2 : n = b.n
      · subst e2
        rw [Maps.has_put_same hI (ky_key _), (hP.has j b hj).1]
      · rw [Maps.has_put_other (fun e => e2 (ky_inj e))]
  refine ⟨fun k e hk => ⟨?_, ?_⟩, fun n hn => ?_, ?_⟩
  · rw [hh]
    obtain ⟨k', hk'⟩ := List.mem_iff_getElem?.1 ((swp_mem hi hj e).1 (List.mem_of_getElem? hk))
    exact (hP.has k' e hk').1
  · rw [swp_at hi hj] at hk
    by_cases e1 : k = j
    · rw [if_pos e1] at hk
      cases hk
      rw [Maps.atKey_put_same (hI.put _ _) (ky_key _), e1]
    · rw [if_neg e1] at hk
      by_cases e2 : k = i
      · rw [if_pos e2] at hk
        cases hk
        rw [Maps.atKey_put_other hka, Maps.atKey_put_same hI (ky_key _), e2]
      · rw [if_neg e2] at hk
        rw [Maps.atKey_put_other (fun e' => e2 (h.nodup hk hi (ky_inj e'))), Maps.atKey_put_other (fun e' => e1 (h.nodup hk hj (ky_inj e')))]
        exact (hP.has k e hk).2
  · obtain ⟨e, he, hn'⟩ := hP.all n ((hh n).1 hn)
    exact ⟨e, (swp_mem hi hj e).2 he, hn'⟩
  · rw [Maps.size_put (ht.put (ky_key _) _), Maps.size_put ht, swp_len, ← hP.size, Maps.has_put_other (fun e => hka e.symm), (hP.has i a hi).1, (hP.has j b hj).1]
    simp
theorem swap_kp {w w1 w2 w3 : World} {qb bm g len cap : Nat} (hg1 : w.grownBy w1 (some g)) (hg2 : w1.drew.grownBy w2 (some bm)) (hg3 : w2.drew.grownBy w3 (some bm)) : Kp (fp qb bm (.slice (some ⟨g, 0, none⟩) len cap)) w w3 := by
  have h2 : Kp (fp qb bm (.slice (some ⟨g, 0, none⟩) len cap)) w1 w2 := Kp.of (grown_same (grown_drew w1) hg2) (fun k hk => .inr (.inl (by cases hk; rfl)))
  have h3 : Kp (fp qb bm (.slice (some ⟨g, 0, none⟩) len cap)) w2 w3 := Kp.of (grown_same (grown_drew w2) hg3) (fun k hk => .inr (.inl (by cases hk; rfl)))
  exact ((Kp.of hg1 (fun k hk => .inr (.inr hk))).trans h2 (fun _ _ h => h)).trans h3 (fun _ _ h => h)
set_option maxRecDepth 100000 in
set_option maxHeartbeats 4000000 in
theorem swap_ne (w : World) {qb bm : Nat} {rv : Value} {es : List E} (h : Ln w qb bm rv es) {i j : Nat} {a b : E} (hi : es[i]? = some a) (hj : es[j]? = some b) (hij : i ≠ j) :
    Calls Tryz.prog 177 #[.pointer (some ⟨qb, 0, none⟩), .int .i64 i, .int .i64 j] w fun r w' => r = .returned (.tuple #[]) ∧ Ln w' qb bm rv (swp es i j a b) ∧ Tn w w' qb bm rv rv := by
  obtain ⟨ad, cap, rfl⟩ := h.shape
  obtain ⟨g, rfl, hgl, _, k1, k2, f1⟩ := h.row.at hi
  obtain ⟨g', e', _, _, k3, k4, _⟩ := h.row.at hj
  cases e'
  have c0 := h.c0
  have hil : i < es.length := (List.getElem?_eq_some_iff.1 hi).1
  have hjl : j < es.length := (List.getElem?_eq_some_iff.1 hj).1
  have hl := h.len
  have hgq : g ≠ qb := fun e => h.nq (by rw [e]; rfl)
  go_enter Tryz.func177, Tryz.ntmps177
  go_wp2_with fail
  go_region
  generalize hw1 : World.drew _ = w1
  have hg1 : w.grownBy w1 (some g) := by
    rw [← hw1]
    exact ((((grown_setCell w ⟨g, i * 2, none⟩ _).trans (grown_setCell _ ⟨g, i * 2 + 1, none⟩ _)).trans (grown_setCell _ ⟨g, j * 2, none⟩ _)).trans (grown_setCell _ ⟨g, j * 2 + 1, none⟩ _)).trans ((grown_drew _).but _)
  have hr1 : Rw 91 w1 (.slice (some ⟨g, 0, none⟩) es.length cap) (swp es i j a b) := by
    rw [← hw1]
    exact Rw.set (Rw.set h.row i b hil) j a (by simpa using hjl)
  clear hw1
  obtain ⟨D, hM, hP⟩ := h.mp
  have hM1 : Mp w1 bm D := hM.kept (hg1.block bm h.bml (fun e => h.nm (by rw [e]; rfl)))
  have hb1 : w1.heap[qb]? = some (.cells #[.slice (some ⟨g, 0, none⟩) es.length cap, .map (some bm)] 111 (0, 0)) := (hg1.block qb h.qbl (fun e => h.nq (by rw [e]; rfl))).trans h.blk
  have hda := hP.has i a hi
  have hdb := hP.has j b hj
  have hsz : Maps.size D < maxLen := by rw [hP.size]; unfold maxLen; omega
  have hnab : a.n ≠ b.n := fun e => hij (h.nodup hi hj e)
  have hka : ky a.n ≠ ky b.n := fun e => hnab (ky_inj e)
  have ha1 := h.ok a (List.mem_of_getElem? hi)
  have hb1' := h.ok b (List.mem_of_getElem? hj)
  obtain ⟨w2, hs2, hM2, ht2⟩ := Mp.store (w := w1.drew) (n := b.n) (c := (i : Int)) hM1 hsz hb1'.1 (WalkArith.wf_i64 (by omega))
  have hsz2 : Maps.size (D.put (ky b.n) (.lit (.int .i64 (i : Int)))) = Maps.size D := by rw [Maps.size_put hM.tidy]; simp [hdb.1]
  have hg2 := ht2.grown
  obtain ⟨w3, hs3, hM3, ht3⟩ := Mp.store (w := w2.drew) (n := a.n) (c := (j : Int)) hM2 (by rw [hsz2]; exact hsz) ha1.1 (WalkArith.wf_i64 (by omega))
  have hg3 := ht3.grown
  clear k1 k2 k3 k4 c0 f1
  have hri := swp_at hi hj i
  have hrj := swp_at hi hj j
  rw [if_neg hij, if_pos rfl] at hri
  rw [if_pos rfl] at hrj
  have hqm : some qb ≠ some bm := fun e => h.ne (by cases e; rfl)
  have hgm : some g ≠ some bm := fun e => h.nm (by rw [← e]; rfl)
  obtain ⟨_, e1, hgl1, _, k1, _, _⟩ := hr1.at hri
  cases e1
  have hr2 : Rw 91 w2 (.slice (some ⟨g, 0, none⟩) es.length cap) (swp es i j a b) := World.ownsRow.kept (w := w1.drew) hr1 hg2 (.inr hgm)
  have hr3 : Rw 91 w3 (.slice (some ⟨g, 0, none⟩) es.length cap) (swp es i j a b) := World.ownsRow.kept (w := w2.drew) hr2 hg3 (.inr hgm)
  have hb2 : w2.heap[qb]? = some (.cells #[.slice (some ⟨g, 0, none⟩) es.length cap, .map (some bm)] 111 (0, 0)) := (hg2.block qb (Array.getElem?_eq_some_iff.1 hb1).1 hqm).trans hb1
  have hb3 : w3.heap[qb]? = some (.cells #[.slice (some ⟨g, 0, none⟩) es.length cap, .map (some bm)] 111 (0, 0)) := (hg3.block qb (Array.getElem?_eq_some_iff.1 hb2).1 hqm).trans hb2
  have c0 : w1.cell? ⟨qb, 0, none⟩ = some (.slice (some ⟨g, 0, none⟩) es.length cap) := by simp [World.cell?, hb1]
  have c1 : w1.cell? ⟨qb, 1, none⟩ = some (.map (some bm)) := by simp [World.cell?, hb1]
  have d0 : w2.cell? ⟨qb, 0, none⟩ = some (.slice (some ⟨g, 0, none⟩) es.length cap) := by simp [World.cell?, hb2]
  have d1 : w2.cell? ⟨qb, 1, none⟩ = some (.map (some bm)) := by simp [World.cell?, hb2]
  obtain ⟨_, e1, _, _, k2, _, _⟩ := hr2.at hrj
  cases e1
  go_wp2_with fail
  go_region
  go_wp2_with fail
  go_region
  go_end0
  refine ⟨rfl, ⟨hb3, hr3, ⟨_, hM3, swp_plc h hP hi hj hij hM⟩, h.nq, h.nm, fun e he => h.ok e ((swp_mem hi hj e).1 he), by rw [swp_len]; exact h.len⟩, ⟨?_, .inl rfl⟩⟩
  exact swap_kp hg1 hg2 hg3
theorem swp_self {es : List E} {i : Nat} {a : E} (hi : es[i]? = some a) : swp es i i a a = es := by
  apply List.ext_getElem?
  intro k
  rw [swp_at hi hi]
  by_cases e : k = i
  · rw [if_pos e, e, hi]
  · rw [if_neg e, if_neg e]
theorem self_plc {w : World} {bm : Nat} {es : List E} {D : DataW Value} (hP : Plc D es) {i : Nat} {a : E} (hi : es[i]? = some a) (hM : Mp w bm D) : Plc (D.put (ky a.n) (.lit (.int .i64 (i : Int)))) es := by
  have hI := hM.isMap
  have ht := hM.tidy
  have hh : ∀ n : ByteArray, Maps.has (D.put (ky a.n) (.lit (.int .i64 (i : Int)))) (ky n) = true ↔ Maps.has D (ky n) = true := by
    intro n
    by_cases e1 : n = a.n
    · subst e1
      rw [Maps.has_put_same hI (ky_key _), (hP.has i a hi).1]
    · rw [Maps.has_put_other (fun e => e1 (ky_inj e))]
  refine ⟨fun k e hk => ⟨(hh _).2 (hP.has k e hk).1, ?_⟩, fun n hn => hP.all n ((hh n).1 hn), ?_⟩
  · by_cases e1 : e.n = a.n
    · rw [e1, Maps.atKey_put_same hI (ky_key _)]
      have k1 := (hP.has k e hk).2
      rw [e1, (hP.has i a hi).2] at k1
      exact k1
    · rw [Maps.atKey_put_other (fun e' => e1 (ky_inj e'))]
      exact (hP.has k e hk).2
  · rw [Maps.size_put ht, (hP.has i a hi).1, ← hP.size]
    simp
set_option maxRecDepth 100000 in
set_option maxHeartbeats 4000000 in
theorem swap_eq (w : World) {qb bm : Nat} {rv : Value} {es : List E} (h : Ln w qb bm rv es) {i : Nat} {a : E} (hi : es[i]? = some a) :
    Calls Tryz.prog 177 #[.pointer (some ⟨qb, 0, none⟩), .int .i64 i, .int .i64 i] w fun r w' => r = .returned (.tuple #[]) ∧ Ln w' qb bm rv es ∧ Tn w w' qb bm rv rv := by
  obtain ⟨ad, cap, rfl⟩ := h.shape
  obtain ⟨g, rfl, hgl, _, k1, k2, f1⟩ := h.row.at hi
  have c0 := h.c0
  have hil : i < es.length := (List.getElem?_eq_some_iff.1 hi).1
  have hl := h.len
  have hgq : g ≠ qb := fun e => h.nq (by rw [e]; rfl)
  go_enter Tryz.func177, Tryz.ntmps177
  go_wp2_with fail
  go_region
  generalize hw1 : World.drew _ = w1
  have hg1 : w.grownBy w1 (some g) := by
    rw [← hw1]
    exact ((((grown_setCell w ⟨g, i * 2, none⟩ _).trans (grown_setCell _ ⟨g, i * 2 + 1, none⟩ _)).trans (grown_setCell _ ⟨g, i * 2, none⟩ _)).trans (grown_setCell _ ⟨g, i * 2 + 1, none⟩ _)).trans ((grown_drew _).but _)
  have hr1 : Rw 91 w1 (.slice (some ⟨g, 0, none⟩) es.length cap) (swp es i i a a) := by
    rw [← hw1]
    exact Rw.set (Rw.set h.row i a hil) i a (by simpa using hil)
  clear hw1
  obtain ⟨D, hM, hP⟩ := h.mp
  have hM1 : Mp w1 bm D := hM.kept (hg1.block bm h.bml (fun e => h.nm (by rw [e]; rfl)))
  have hb1 : w1.heap[qb]? = some (.cells #[.slice (some ⟨g, 0, none⟩) es.length cap, .map (some bm)] 111 (0, 0)) := (hg1.block qb h.qbl (fun e => h.nq (by rw [e]; rfl))).trans h.blk
  have hda := hP.has i a hi
  have hsz : Maps.size D < maxLen := by rw [hP.size]; unfold maxLen; omega
  have ha1 := h.ok a (List.mem_of_getElem? hi)
  obtain ⟨w2, hs2, hM2, ht2⟩ := Mp.store (w := w1.drew) (n := a.n) (c := (i : Int)) hM1 hsz ha1.1 (WalkArith.wf_i64 (by omega))
  have hsz2 : Maps.size (D.put (ky a.n) (.lit (.int .i64 (i : Int)))) = Maps.size D := by rw [Maps.size_put hM.tidy]; simp [hda.1]
  have hg2 := ht2.grown
  obtain ⟨w3, hs3, hM3, ht3⟩ := Mp.store (w := w2.drew) (n := a.n) (c := (i : Int)) hM2 (by rw [hsz2]; exact hsz) ha1.1 (WalkArith.wf_i64 (by omega))
  have hg3 := ht3.grown
  clear k1 k2 c0 f1
  have hri := swp_at hi hi i
  rw [if_pos rfl] at hri
  have hqm : some qb ≠ some bm := fun e => h.ne (by cases e; rfl)
  have hgm : some g ≠ some bm := fun e => h.nm (by rw [← e]; rfl)
  obtain ⟨_, e1, hgl1, _, k1, _, _⟩ := hr1.at hri
  cases e1
  have hr2 : Rw 91 w2 (.slice (some ⟨g, 0, none⟩) es.length cap) (swp es i i a a) := World.ownsRow.kept (w := w1.drew) hr1 hg2 (.inr hgm)
  have hr3 : Rw 91 w3 (.slice (some ⟨g, 0, none⟩) es.length cap) (swp es i i a a) := World.ownsRow.kept (w := w2.drew) hr2 hg3 (.inr hgm)
  have hb2 : w2.heap[qb]? = some (.cells #[.slice (some ⟨g, 0, none⟩) es.length cap, .map (some bm)] 111 (0, 0)) := (hg2.block qb (Array.getElem?_eq_some_iff.1 hb1).1 hqm).trans hb1
  have hb3 : w3.heap[qb]? = some (.cells #[.slice (some ⟨g, 0, none⟩) es.length cap, .map (some bm)] 111 (0, 0)) := (hg3.block qb (Array.getElem?_eq_some_iff.1 hb2).1 hqm).trans hb2
  have c0 : w1.cell? ⟨qb, 0, none⟩ = some (.slice (some ⟨g, 0, none⟩) es.length cap) := by simp [World.cell?, hb1]
  have c1 : w1.cell? ⟨qb, 1, none⟩ = some (.map (some bm)) := by simp [World.cell?, hb1]
  have d0 : w2.cell? ⟨qb, 0, none⟩ = some (.slice (some ⟨g, 0, none⟩) es.length cap) := by simp [World.cell?, hb2]
  have d1 : w2.cell? ⟨qb, 1, none⟩ = some (.map (some bm)) := by simp [World.cell?, hb2]
  obtain ⟨_, e1, _, _, k2, _, _⟩ := hr2.at hri
  cases e1
  go_wp2_with fail
  go_region
  go_wp2_with fail
  go_region
  go_end0
  refine ⟨rfl, ⟨hb3, by have := hr3; rw [swp_self hi] at this; exact this, ⟨_, hM3, self_plc (self_plc hP hi hM) hi hM2⟩, h.nq, h.nm, h.ok, h.len⟩, ⟨?_, .inl rfl⟩⟩
  exact swap_kp hg1 hg2 hg3
/-- line.Swap. -/
theorem swap_any (w : World) {qb bm : Nat} {rv : Value} {es : List E} (h : Ln w qb bm rv es) {i j : Nat} {a b : E} (hi : es[i]? = some a) (hj : es[j]? = some b) :
    Calls Tryz.prog 177 #[.pointer (some ⟨qb, 0, none⟩), .int .i64 i, .int .i64 j] w fun r w' => r = .returned (.tuple #[]) ∧ Ln w' qb bm rv (swp es i j a b) ∧ Tn w w' qb bm rv rv := by
  by_cases hij : i = j
  · subst hij
    rw [hi] at hj
    cases hj
    rw [swp_self hi]
    exact swap_eq w h hi
  · exact swap_ne w h hi hj hij
end Go.Proofs.YtblnhcnfeagjhaaGreatDoor.Q
