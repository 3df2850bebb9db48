/- The document's disk in memory: a list of segments by rising numbers; belfryref03.Find. -/
import Derived.Test.YtmhpbemfejkdaaaRds
namespace Go.Proofs.Ytmhpbemfejkdaaa
open Go.RowKit Go.IntWalk Go.Maps Go.Sort
set_option linter.unusedVariables false
set_option linter.unusedSimpArgs false

/-- The slice v holds these segments, in a block of which N is true (or there are none). -/
def Rws (N : Nat → Prop) (W : World) (v : Value) (l : List Sg) : Prop :=
  ((v = .slice none 0 0 ∨ ∃ ad cap, v = .slice (some ad) 0 cap) ∧ l = []) ∨ ∃ b off cap, v = .slice (some ⟨b, off, none⟩) l.length cap ∧ N b ∧ b < W.heap.size ∧ l.length ≤ cap ∧ cap ≤ maxLen ∧
    ∀ (j : Nat) (x : Sg), l[j]? = some x → W.cell? ⟨b, off + j * 3, none⟩ = some (.int .i64 x.n) ∧ W.cell? ⟨b, off + j * 3 + 1, none⟩ = some x.v ∧ W.cell? ⟨b, off + j * 3 + 2, none⟩ = some (.int .i64 x.s)
theorem Rws.shape {N : Nat → Prop} {W : World} {v : Value} {l : List Sg} (h : Rws N W v l) : ∃ a cap, v = .slice a l.length cap := by
  obtain ⟨rfl | ⟨ad, cap, rfl⟩, rfl⟩ | ⟨b, off, cap, rfl, _⟩ := id h <;> exact ⟨_, _, rfl⟩
theorem Rws.at {N : Nat → Prop} {W : World} {a : Option Addr} {len cap : Nat} {l : List Sg} (h : Rws N W (.slice a len cap) l) {j : Nat} {x : Sg} (hj : l[j]? = some x) :
    ∃ b off, a = some ⟨b, off, none⟩ ∧ N b ∧ b < W.heap.size ∧ W.cell? ⟨b, off + j * 3, none⟩ = some (.int .i64 x.n) ∧ W.cell? ⟨b, off + j * 3 + 1, none⟩ = some x.v ∧ W.cell? ⟨b, off + j * 3 + 2, none⟩ = some (.int .i64 x.s) := by
  obtain ⟨_, rfl⟩ | ⟨b, off, c, e, hn, hb, hl, hm, hc⟩ := h
  · simp at hj
  · simp only [Value.slice.injEq] at e
    exact ⟨b, off, e.1, hn, hb, hc j x hj⟩
theorem Rws.grown {N : Nat → Prop} {W W' : World} {row : Option Nat} {v : Value} {l : List Sg} (h : Rws N W v l) (hg : W.grownBy W' row) (hr : ∀ k, row = some k → ¬ N k) : Rws N W' v l := by
  obtain e | ⟨b, off, c, e, hn, hb, hl, hm, hc⟩ := h
  · exact .inl e
  · have hne : some b ≠ row := fun e => hr b e.symm hn
    exact .inr ⟨b, off, c, e, hn, Nat.lt_of_lt_of_le hb hg.size, hl, hm, fun j x hj => ⟨hg.cell (hc j x hj).1 hne, hg.cell (hc j x hj).2.1 hne, hg.cell (hc j x hj).2.2 hne⟩⟩
theorem Rws.mono {N N' : Nat → Prop} {W : World} {v : Value} {l : List Sg} (h : Rws N W v l) (hn : ∀ k, N k → N' k) : Rws N' W v l := by
  obtain e | ⟨b, off, c, e, hb, r⟩ := h
  · exact .inl e
  · exact .inr ⟨b, off, c, e, hn b hb, r⟩
/-- What a segment is in memory. -/
def Sg.row (x : Sg) : List Value := [.int .i64 x.n, x.v, .int .i64 x.s]
def rows (l : List Sg) : List Value := l.flatMap Sg.row
theorem rows_length (l : List Sg) : (rows l).length = l.length * 3 := by
  induction l with
  | nil => rfl
  | cons a r ih => simp only [rows, List.flatMap_cons, List.length_append] at ih ⊢; rw [ih]; simp [Sg.row]; omega
theorem rows_at {l : List Sg} {j : Nat} {x : Sg} (h : l[j]? = some x) (k : Nat) (hk : k < 3) : (rows l)[j * 3 + k]? = x.row[k]? := by
  induction l generalizing j with
  | nil => simp at h
  | cons a r ih =>
    cases j with
    | zero =>
      simp only [List.getElem?_cons_zero, Option.some.injEq] at h
      subst h
      simp only [rows, List.flatMap_cons]
      rw [List.getElem?_append_left (by simp [Sg.row]; omega)]
      simp
    | succ j =>
      simp only [List.getElem?_cons_succ] at h
      have := ih h
      simp only [rows, List.flatMap_cons] at this ⊢
      rw [List.getElem?_append_right (by simp [Sg.row]; omega)]
      have e : (j + 1) * 3 + k - a.row.length = j * 3 + k := by simp [Sg.row]; omega
      rw [e]
      exact this
theorem Rws.of_own {W : World} {base : Nat} {v : Value} {l : List Sg} (h : W.ownsRow base 64 3 v l.length (rows l)) : Rws (fun i => base ≤ i) W v l := by
  rcases h.2 with ⟨rfl, h0⟩ | ⟨g, cap, cur, rfl, hb, hg, hn, hm, hs, ht⟩
  · exact .inl ⟨.inl rfl, List.eq_nil_of_length_eq_zero h0⟩
  · refine .inr ⟨g, 0, cap, rfl, hb, (Array.getElem?_eq_some_iff.1 hg).1, hn, hm, fun j x hj => ?_⟩
    have hadd : ∀ j, (⟨g, 0, none⟩ : Addr).add j = ⟨g, 0 + j, none⟩ := fun j => by unfold Addr.add; split <;> simp_all
    have hc := fun k hk u hu => h.cells (g := g) rfl (j * 3 + k) u ((rows_at hj k hk).trans hu)
    have h0 := hc 0 (by decide) _ rfl
    have h1 := hc 1 (by decide) _ rfl
    have h2 := hc 2 (by decide) _ rfl
    rw [hadd] at h0 h1 h2
    exact ⟨h0, by rw [Nat.add_assoc]; exact h1, by rw [Nat.add_assoc]; exact h2⟩

/-- The document's disk, in block rb. -/
structure Rsk (w : World) (rb : Nat) (N : Nat → Prop) (l : List Sg) (root : List Int) : Prop where
  c0 : ∃ sv, w.cell? ⟨rb, 0, none⟩ = some sv ∧ Rws N w sv l
  c1 : ∃ rv, w.cell? ⟨rb, 1, none⟩ = some rv ∧ Btx N w rv root
  f0 : w.frozen? ⟨rb, 0, none⟩ = false
  f1 : w.frozen? ⟨rb, 1, none⟩ = false
  nrb : ¬ N rb
  up : Up l
  len : l.length ≤ 128
  seg : ∀ x ∈ l, 0 ≤ x.n ∧ x.n < 9223372036854775808 ∧ x.b.length ≤ 1024 ∧ 0 ≤ x.s ∧ x.s ≤ x.b.length ∧ Btx N w x.v x.b
  rl : root.length ≤ 1024
theorem Rsk.rbl {w : World} {rb : Nat} {N : Nat → Prop} {l : List Sg} {root : List Int} (h : Rsk w rb N l root) : rb < w.heap.size := by
  obtain ⟨sv, c0, _⟩ := h.c0
  exact World.block_lt_of_cell? w _ c0
theorem Rsk.grown {w w' : World} {rb : Nat} {N : Nat → Prop} {l : List Sg} {root : List Int} {row : Option Nat} (h : Rsk w rb N l root) (hg : w.grownBy w' row) (h1 : some rb ≠ row) (h3 : ∀ k, row = some k → ¬ N k) : Rsk w' rb N l root := by
  obtain ⟨sv, c0, hs⟩ := h.c0
  obtain ⟨rv, c1, hr⟩ := h.c1
  exact ⟨⟨sv, hg.cell c0 h1, hs.grown hg h3⟩, ⟨rv, hg.cell c1 h1, hr.grown hg h3⟩, (World.frozen?_of_block (a := ⟨rb, 0, none⟩) (hg.block rb h.rbl h1)).trans h.f0, (World.frozen?_of_block (a := ⟨rb, 1, none⟩) (hg.block rb h.rbl h1)).trans h.f1, h.nrb, h.up, h.len, fun x hx => by
    obtain ⟨a1, a2, a3, a4, a5, a6⟩ := h.seg x hx
    exact ⟨a1, a2, a3, a4, a5, a6.grown hg h3⟩, h.rl⟩
theorem Rsk.grown0 {w w' : World} {rb : Nat} {N : Nat → Prop} {l : List Sg} {root : List Int} (h : Rsk w rb N l root) (hg : w.grownBy w' none) : Rsk w' rb N l root := h.grown hg (by simp) (by simp)
theorem Rsk.mono {w : World} {rb : Nat} {N N' : Nat → Prop} {l : List Sg} {root : List Int} (h : Rsk w rb N l root) (hn : ∀ k, N k → N' k) (h1 : ¬ N' rb) : Rsk w rb N' l root := by
  obtain ⟨sv, c0, hs⟩ := h.c0
  obtain ⟨rv, c1, hr⟩ := h.c1
  exact ⟨⟨sv, c0, hs.mono hn⟩, ⟨rv, c1, hr.mono hn⟩, h.f0, h.f1, h1, h.up, h.len, fun x hx => by
    obtain ⟨a1, a2, a3, a4, a5, a6⟩ := h.seg x hx
    exact ⟨a1, a2, a3, a4, a5, a6.mono hn⟩, h.rl⟩
theorem Rsk.wide {w : World} {rb : Nat} {N : Nat → Prop} {l : List Sg} {root : List Int} (h : Rsk w rb N l root) : Rsk w rb (Or_ N w) l root :=
  h.mono (fun k hk => .inl hk) (fun e => e.elim h.nrb (fun e => by have := h.rbl; omega))

/-- What Find answers. -/
def Found (n : Int) (l : List Sg) (i : Int) : Prop := (getS n l = none ∧ i = -1) ∨ ∃ (k : Nat) (x : Sg), i = k ∧ l[k]? = some x ∧ getS n l = some x
set_option maxRecDepth 100000 in
set_option maxHeartbeats 1000000 in
/-- belfryref03.Find. -/
theorem rfind_any (w : World) {rb : Nat} {N : Nat → Prop} {l : List Sg} {root : List Int} (h : Rsk w rb N l root) (n : Int) :
    Calls Try.prog 18 #[.pointer (some ⟨rb, 0, none⟩), .int .i64 n] w fun r w' => ∃ i : Int, r = .returned (.int .i64 i) ∧ w = w' ∧ Found n l i := by
  obtain ⟨sv, c0, hs⟩ := h.c0
  obtain ⟨a, cap, rfl⟩ := hs.shape
  have hlen := h.len
  go_enter Try.func18, Try.ntmps18
  go_wp2_with fail
  go_loop [5] (fun i => ∃ (j : Nat), j ≤ l.length ∧ i = .int .i64 j ∧ Hid (∀ (k : Nat) (x : Sg), k < j → l[k]? = some x → x.n ≠ n)) (fun i => l.length - (intOf i).toNat)
  case atStart => exact ⟨0, by omega, rfl, fun k x hk => by omega⟩
  case round =>
    obtain ⟨j, hj, rfl, hno⟩ := hrel
    by_cases hjl : j < l.length
    · have hdj : decide ((j : Int) < (l.length : Int)) = true := by simp; omega
      obtain ⟨x, hx⟩ : ∃ x, l[j]? = some x := ⟨_, List.getElem?_eq_getElem hjl⟩
      obtain ⟨b, off, rfl, hN, hbl, hc, _, _⟩ := hs.at hx
      by_cases hn : x.n = n
      · have e1 : (x.n == n) = true := by simp [hn]
        have hget : Hid (getS n l = some x) := hn ▸ h.up.get (List.mem_of_getElem? hx)
        have hx' : Hid (l[j]? = some x) := hx
        clear hx
        clear hn
        go_wp2
        go_ret
        exact ⟨_, rfl, rfl, Or.inr ⟨j, x, rfl, hx'.out, hget.out⟩⟩
      · have e1 : (x.n == n) = false := by simp [hn]
        have hno' : Hid (∀ (k : Nat) (y : Sg), k < j + 1 → l[k]? = some y → y.n ≠ n) := fun k y hk hy => by
          by_cases e : k = j
          · subst e
            rw [hx] at hy
            cases hy
            exact hn
          · exact hno.out k y (by omega) hy
        clear hn
        go_wp2
        exact ⟨⟨j + 1, by omega, by go_num, hno'⟩, by simp [intOf]; omega⟩
    · have hdj : decide ((j : Int) < (l.length : Int)) = false := by simp; omega
      go_wp2
      go_ret
      refine ⟨_, rfl, rfl, Or.inl ⟨?_, rfl⟩⟩
      refine List.find?_eq_none.2 fun y hy => ?_
      obtain ⟨k, hk⟩ := List.getElem?_of_mem hy
      have hkl : k < l.length := by
        rcases Nat.lt_or_ge k l.length with h | h
        · exact h
        · rw [List.getElem?_eq_none h] at hk; cases hk
      have := hno.out k y (by omega) hk
      simpa using this
end Go.Proofs.Ytmhpbemfejkdaaa
