/- What a key is worth in a draft: draft.value. -/
import Derived.Test.YtmahpceokpajgaaDoorDed
namespace Go.Proofs.YtmahpceokpajgaaDoor
open Go.RowKit Go.IntWalk Go.Maps Go.Shelf
set_option linter.unusedVariables false
/-- The last write of a key. -/
def wlast (ws : List Wr) (k : K) : Option Wr := ws.reverse.find? fun x => decide (x.ky = k)
/-- What a key is worth: the last write of it, else the trie's. -/
def dval (ws : List Wr) (L : List E) (k : K) : ByteArray × Bool := match wlast ws k with | some x => (x.vl, x.is) | none => (vOf (gt L k), (gt L k).isSome)
theorem wlast_at {ws : List Wr} {n : Nat} {x : Wr} {k : K} (hx : ws[n]? = some x) (hk : x.ky = k) (hno : ∀ y ∈ ws.drop (n + 1), y.ky ≠ k) : wlast ws k = some x := by
  have hn := (List.getElem?_eq_some_iff.1 hx).1
  have e : ws = ws.take n ++ x :: ws.drop (n + 1) := by
    conv => lhs; rw [← List.take_append_drop n ws, List.drop_eq_getElem_cons hn]
    rw [(List.getElem?_eq_some_iff.1 hx).2]
  unfold wlast
  rw [e, List.reverse_append, List.reverse_cons, List.append_assoc, List.find?_append, List.find?_eq_none.2 (fun y hy => by simpa using hno y (by simpa using hy))]
  simp [hk]
theorem wlast_no {ws : List Wr} {k : K} (hno : ∀ y ∈ ws, y.ky ≠ k) : wlast ws k = none := List.find?_eq_none.2 fun y hy => by simpa using hno y (by simpa using hy)
theorem flat_at {α : Type} (f : α → List Value) (m : Nat) (hf : ∀ x, (f x).length = m) : ∀ (l : List α) (i : Nat) (x : α) (j : Nat), l[i]? = some x → j < m → (l.flatMap f)[i * m + j]? = (f x)[j]?
  | [], i, x, j, h, _ => by simp at h
  | y :: l, 0, x, j, h, hj => by
    simp at h; subst h
    rw [List.flatMap_cons, Nat.zero_mul, Nat.zero_add, List.getElem?_append_left (by rw [hf]; exact hj)]
  | y :: l, i + 1, x, j, h, hj => by
    rw [List.flatMap_cons, List.getElem?_append_right (by rw [hf, Nat.succ_mul]; omega), hf]
    have e : (i + 1) * m + j - m = i * m + j := by rw [Nat.succ_mul]; omega
    rw [e]
    exact flat_at f m hf l i x j (by simpa using h) hj
theorem Dft.at {n₀ db tb : Nat} {w : World} {a : Option Addr} {len cap : Nat} {cv : Value} {ws : List Wr} {cs : List K} (h : Dft n₀ w db tb (.slice a len cap) cv ws cs) {i : Nat} {x : Wr} (hi : ws[i]? = some x) :
    ∃ g, a = some ⟨g, 0, none⟩ ∧ db < g ∧ g < w.heap.size ∧ len = ws.length ∧ w.cell? ⟨g, i * 3, none⟩ = some (.string (bt x.ky)) ∧ w.cell? ⟨g, i * 3 + 1, none⟩ = some (.string x.vl) ∧ w.cell? ⟨g, i * 3 + 2, none⟩ = some (.bool x.is) := by
  have hl := (List.getElem?_eq_some_iff.1 hi).1
  have hq := flat_at Wr.cells 3 (fun _ => rfl) ws i x
  rcases id h.rw.2 with ⟨e1, h0⟩ | ⟨g, c, cur, e1, hge, hg, hc⟩
  · omega
  · simp only [Value.slice.injEq] at e1
    obtain ⟨rfl, rfl, rfl⟩ := e1
    have k0 := h.rw.cells (g := g) rfl _ _ (hq 0 hi (by decide))
    have k1 := h.rw.cells (g := g) rfl _ _ (hq 1 hi (by decide))
    have k2 := h.rw.cells (g := g) rfl _ _ (hq 2 hi (by decide))
    rw [addr_add, Nat.zero_add] at k0 k1 k2
    exact ⟨g, rfl, by omega, (Array.getElem?_eq_some_iff.1 hg).1, rfl, k0, k1, k2⟩
theorem Dft.shape {n₀ db tb : Nat} {w : World} {wv cv : Value} {ws : List Wr} {cs : List K} (h : Dft n₀ w db tb wv cv ws cs) : ∃ a cap, wv = .slice a ws.length cap := by
  rcases id h.rw.2 with ⟨e1, h0⟩ | ⟨g, c, cur, e1, _⟩
  · exact ⟨none, 0, by rw [e1, h0]⟩
  · exact ⟨_, _, e1⟩
set_option maxRecDepth 100000 in
set_option maxHeartbeats 4000000 in
/-- draft.value. -/
theorem value_any (w : World) {n₀ db tb : Nat} {wv cv : Value} {ws : List Wr} {cs : List K} (h : Dft n₀ w db tb wv cv ws cs) {S : Nat → Prop} {L : List E} (hT : Tri S w tb L) (hl : ws.length ≤ 100000) (k : K) (hk : k.length ≤ 100000) {r : ByteArray × Bool} (hr : Hid (dval ws L k = r)) :
    Calls Tryd.prog 64 #[ptr db, .string (bt k)] w fun e w' => e = .returned (.tuple #[.string r.1, .bool r.2]) ∧ w.grownBy w' none := by
  obtain ⟨a, cap, rfl⟩ := h.shape
  have c0 : w.cell? ⟨db, 0, none⟩ = some (ptr tb) := by simp [World.cell?, h.blk]
  have c1 : w.cell? ⟨db, 1, none⟩ = some (.slice a ws.length cap) := by simp [World.cell?, h.blk]
  have htl := bt_toList
  have hw1 : wrap64 ((ws.length : Int) - 1) = (ws.length : Int) - 1 := by unfold wrap64; omega
  replace hT : Hid _ := ⟨hT⟩
  go_enter Tryd.func64, Tryd.ntmps64
  go_wp2_with fail
  clear hw1
  go_loopw [6] (fun iv wr => ∃ (j : Nat), ((j = 0 ∧ iv = .int .i64 (-1)) ∨ ∃ n : Nat, j = n + 1 ∧ iv = .int .i64 n) ∧ j ≤ ws.length ∧ Hid (w.grownBy wr none ∧ ∀ x ∈ ws.drop j, x.ky ≠ k))
    (fun iv _ => (intOf iv + 1).toNat)
  case atStart =>
    refine ⟨ws.length, ?_, Nat.le_refl _, ⟨grown_refl w, by simp⟩⟩
    by_cases h0 : ws.length = 0
    · exact .inl ⟨h0, by rw [h0]; rfl⟩
    · exact .inr ⟨ws.length - 1, by omega, by congr 1; omega⟩
  case round =>
    obtain ⟨j, hjv, hj, hR⟩ := hrel
    have c0 := grown_cell hR.out.1 c0
    have c1 := grown_cell hR.out.1 c1
    rcases hjv with ⟨rfl, rfl⟩ | ⟨n, rfl, rfl⟩
    · have hno := wlast_no (ws := ws) (k := k) fun x hx => hR.out.2 x (by simpa using hx)
      have hre : Hid (r = (vOf (gt L k), (gt L k).isSome)) := ⟨by rw [← hr.out]; simp [dval, hno]⟩
      have hget := get_any wr (hT.out.kept fun j _ hl => hR.out.1.block j hl (by simp)) k hk (o := gt L k) ⟨rfl⟩
      have hg := hR.out.1
      replace hget : Hid _ := ⟨hget⟩
      replace hg : Hid _ := ⟨hg⟩
      clear hno hR
      go_wp2_with fail
      refine hget.out.mono ?_
      rintro e w5 ⟨rfl, hg5⟩
      have hfin : Hid _ := ⟨grown_none hg.out hg5⟩
      clear hget hg hg5
      go_wp2
      go_ret2
      exact ⟨by rw [hre.out]; rfl, hfin.out⟩
    · obtain ⟨x, hx⟩ : ∃ x, ws[n]? = some x := ⟨_, List.getElem?_eq_getElem (by omega)⟩
      obtain ⟨g, rfl, _, hgl, _, k0, k1, k2⟩ := (h.keep hR.out.1).at hx
      have hga := World.grownBy_alloc wr (.cells #[.string (bt x.ky), .string x.vl, .bool x.is] 101) none
      have hg5 : Hid (w.grownBy (wr.alloc (.cells #[.string (bt x.ky), .string x.vl, .bool x.is] 101)) none) := ⟨grown_none hR.out.1 hga⟩
      have hn1 : n < ws.length := by omega
      have hn2 : (n : Int) < (ws.length : Int) := by omega
      have hn3 : (0 : Int) ≤ (n : Int) := by omega
      have hdn : decide ((n : Int) ≥ 0) = true := by simp
      have hwn : wrap64 ((n : Int) - 1) = (n : Int) - 1 := by unfold wrap64; omega
      replace hga : Hid _ := ⟨hga⟩
      by_cases hq : x.ky = k
      · have hre : Hid (r = (x.vl, x.is)) := ⟨by rw [← hr.out]; simp [dval, wlast_at hx hq hR.out.2]⟩
        subst hq
        replace hx : Hid _ := ⟨hx⟩
        clear hR
        go_wp2
        go_region
        go_wp2
        all_goals
          go_ret2
          exact ⟨by rw [hre.out]; rfl, grown_none hg5.out (grown_drew _)⟩
      · have hqb : (x.ky == k) = false := by simpa using hq
        have hdr : Hid (∀ y ∈ ws.drop n, y.ky ≠ k) := ⟨fun y hy => by
          rw [List.drop_eq_getElem_cons hn1, (List.getElem?_eq_some_iff.1 hx).2] at hy
          rcases List.mem_cons.1 hy with rfl | hy
          · exact hq
          · exact hR.out.2 y hy⟩
        replace hx : Hid _ := ⟨hx⟩
        clear hR
        go_wp2_with fail
        refine ⟨⟨n, ?_, by omega, ⟨hg5.out, hdr.out⟩⟩, by simp [intOf] <;> omega⟩
        cases n with
        | zero => exact .inl ⟨rfl, by first | rfl | (simp [wrap64])⟩
        | succ n => exact .inr ⟨n, rfl, by congr 1; omega⟩
end Go.Proofs.YtmahpceokpajgaaDoor
