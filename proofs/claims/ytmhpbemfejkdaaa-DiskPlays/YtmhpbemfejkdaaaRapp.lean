/- What the document's disk does: Append. -/
import Derived.Test.YtmhpbemfejkdaaaRops
namespace Go.Proofs.Ytmhpbemfejkdaaa
open Go.RowKit Go.IntWalk Go.Maps Go.Sort
set_option linter.unusedVariables false
set_option linter.unusedSimpArgs false

theorem Bts.lt {n₀ : Nat} {W : World} {v : Value} {zs : List Int} (h : Bts n₀ W v zs) {b off len cap : Nat} (e : v = .slice (some ⟨b, off, none⟩) len cap) (hz : zs ≠ []) : b < n₀ := by
  obtain ⟨⟨_, rfl⟩ | ⟨b', off', c, e', hb, _⟩, _⟩ := h
  · exact absurd rfl hz
  · rw [e] at e'
    simp only [Value.slice.injEq, Option.some.injEq, Addr.mk.injEq] at e'
    rw [e'.1.1]
    exact hb
theorem Found.some' {n : Int} {l : List Sg} {i : Int} {x : Sg} (h : Found n l i) (hx : getS n l = some x) : ∃ k : Nat, i = k ∧ l[k]? = some x ∧ k < l.length := by
  rcases h with ⟨e, _⟩ | ⟨j, y, rfl, hj, hy⟩
  · rw [hx] at e; cases e
  rw [hx] at hy
  cases hy
  refine ⟨j, rfl, hj, ?_⟩
  rcases Nat.lt_or_ge j l.length with h | h
  · exact h
  · rw [List.getElem?_eq_none h] at hj; cases hj
theorem Found.none' {n : Int} {l : List Sg} {i : Int} (h : Found n l i) (hx : getS n l = none) : i = -1 := by
  rcases h with ⟨_, e⟩ | ⟨j, y, _, _, hy⟩
  · exact e
  · rw [hx] at hy; cases hy
set_option maxRecDepth 100000 in
set_option maxHeartbeats 2000000 in
/-- belfryref03.Append, where it has room: the segment is there. -/
theorem rappend_some (w : World) {rb : Nat} {N : Nat → Prop} {l : List Sg} {root : List Int} (h : Rsk w rb N l root) (n : Int) {x : Sg} (hx : getS n l = some x) (az : Option Addr) (capz : Nat) (zs : List Int) (hz : Bts w.heap.size w (.slice az zs.length capz) zs) (hr : x.b.length + zs.length ≤ 1024) :
    Calls Try.prog 10 #[.pointer (some ⟨rb, 0, none⟩), .int .i64 n, .slice az zs.length capz] w fun r w' => r = .returned (.int .i64 0) ∧ (∃ v', Rsk w' rb (Or_ N w) (putS ⟨n, v', x.b ++ zs, x.s⟩ l) root) ∧ w.grownBy w' (some rb) := by
  obtain ⟨sv, c0, hs⟩ := h.c0
  obtain ⟨a, cap, rfl⟩ := hs.shape
  have hlen := h.len
  have hseg := h.seg x (getS_mem hx).1
  have hn := (getS_mem hx).2
  have hd0 : decide (n < 0) = false := by simp; omega
  go_enter Try.func10, Try.ntmps10
  go_wp2_with fail
  refine (rfind_any w h n).mono ?_
  rintro r w1 ⟨i, rfl, rfl, hf⟩
  obtain ⟨j, rfl, hj, hjl⟩ := hf.some' hx
  obtain ⟨b, off, rfl, hN, hbl, d0, d1, d2⟩ := hs.at hj
  obtain ⟨xa, xc, hxv⟩ := hseg.2.2.2.2.2.1.shape
  rw [hxv] at d1
  rw [hn] at d0
  have hd1 : decide ((j : Int) < 0) = false := by simp
  have hd1' : decide ((j : Int) ≥ 0) = true := by simp
  have hji : (j : Int) < (l.length : Int) := by omega
  have hgA0 := World.grownBy_alloc w (.cells #[.int .i64 n, .slice none 0 0, .int .i64 0] 64) none
  have c0' := grown_cell hgA0 c0
  have d0' := grown_cell hgA0 d0
  have d1' := grown_cell hgA0 d1
  have d2' := grown_cell hgA0 d2
  have hw1 : IntKind.i64.wrap ((x.b.length : Int) + zs.length) = x.b.length + zs.length := by rw [IntKind.wrap_i64]; omega
  have hd3 : decide ((x.b.length : Int) + zs.length > 1024) = false := by simp; omega
  have hbx : Bts w.heap.size w (.slice xa x.b.length xc) x.b := hxv ▸ hseg.2.2.2.2.2.1
  have hgA := World.grownBy_alloc w (.cells #[.int .i64 n, .slice xa x.b.length xc, .int .i64 x.s] 64) none
  have hd2 : decide ((zs.length : Int) > 1024) = false := by simp; omega
  have hgAB := grown_none hgA (World.grownBy_alloc (w.alloc (.cells #[.int .i64 n, .slice xa x.b.length xc, .int .i64 x.s] 64)) (.cells #[] 5) none)
  have hsz : (w.alloc (.cells #[.int .i64 n, .slice xa x.b.length xc, .int .i64 x.s] 64)).heap.size = w.heap.size + 1 := by simp
  have hlit := lit_none (w.alloc (.cells #[.int .i64 n, .slice xa x.b.length xc, .int .i64 x.s] 64)) (w.heap.size + 1) (by simp)
  rw [hsz] at hlit
  have hbx2 := hbx.grown0 hgAB
  have hz2 := hz.grown0 hgAB
  have hss : w.heap.size + 1 ≤ ((w.alloc (.cells #[.int .i64 n, .slice xa x.b.length xc, .int .i64 x.s] 64)).alloc (.cells #[] 5)).heap.size := by simp
  have m0 : ((w.alloc (.cells #[.int .i64 n, .slice xa x.b.length xc, .int .i64 x.s] 64)).alloc (.cells #[] 5)).cell? ⟨w.heap.size, 0, none⟩ = some (.int .i64 n) := by simp
  have m1 : ((w.alloc (.cells #[.int .i64 n, .slice xa x.b.length xc, .int .i64 x.s] 64)).alloc (.cells #[] 5)).cell? ⟨w.heap.size, 1, none⟩ = some (.slice xa x.b.length xc) := by simp
  have m2 : ((w.alloc (.cells #[.int .i64 n, .slice xa x.b.length xc, .int .i64 x.s] 64)).alloc (.cells #[] 5)).cell? ⟨w.heap.size, 2, none⟩ = some (.int .i64 x.s) := by simp
  have mf : ((w.alloc (.cells #[.int .i64 n, .slice xa x.b.length xc, .int .i64 x.s] 64)).alloc (.cells #[] 5)).frozen? ⟨w.heap.size, 1, none⟩ = false := by simp
  have hzz : ∀ z ∈ [] ++ x.b ++ zs, 0 ≤ z ∧ z < 256 := fun z hz' => (List.mem_append.1 hz').elim (fun e => hbx.2 z (by simp at e ⊢; try exact e)) (hz.2 z)
  generalize hWd : (w.alloc (.cells #[.int .i64 n, .slice xa x.b.length xc, .int .i64 x.s] 64)).alloc (.cells #[] 5) = Wd at hlit hbx2 hz2 hss m0 m1 m2 mf hgAB
  have key : ∀ (v2 : Value) (w2 : World), w2.ownsRow (w.heap.size + 1) 5 1 v2 (0 + (x.b).length) (([] ++ x.b).map (Value.int .u8)) → Wd.grownBy w2 (Value.slice (some ⟨w.heap.size + 1, 0, none⟩) 0 0).ownBlock → ∀ (v3 : Value) (w3 : World), w3.ownsRow (w.heap.size + 1) 5 1 v3 (0 + (x.b).length + zs.length) (([] ++ x.b ++ zs).map (Value.int .u8)) → w2.grownBy w3 v2.ownBlock →
      ∃ a3 L3 c3, v3 = .slice a3 L3 c3 ∧ w3.cell? ⟨w.heap.size, 0, none⟩ = some (.int .i64 n) ∧ w3.cell? ⟨w.heap.size, 1, none⟩ = some (.slice xa x.b.length xc) ∧ w3.cell? ⟨w.heap.size, 2, none⟩ = some (.int .i64 x.s) ∧ w3.frozen? ⟨w.heap.size, 1, none⟩ = false ∧
      Calls Try.prog 29 #[.pointer (some ⟨rb, 0, none⟩), .agg #[.int .i64 n, .slice a3 L3 c3, .int .i64 x.s]] (w3.setCell ⟨w.heap.size, 1, none⟩ (.slice a3 L3 c3)) fun r w' => r = .returned (.tuple #[]) ∧ (∃ v', Rsk w' rb (Or_ N w) (putS ⟨n, v', x.b ++ zs, x.s⟩ l) root) ∧ w.grownBy w' (some rb) := by
    intro v2 w2 hr2 hg2 v3 w3 hr3 hg3
    have hb3 := Btx.of_own hr3 hzz
    obtain ⟨a3, c3, rfl⟩ := hb3.1.shape
    have hn2 : some w.heap.size ≠ (Value.slice (some ⟨w.heap.size + 1, 0, none⟩) 0 0).ownBlock := by simp [Value.ownBlock]
    have hn3 : some w.heap.size ≠ v2.ownBlock := fun e => by have := (hr2.lt _ e.symm).1; omega
    have hsW := hgAB.size
    have hws : w.heap.size < Wd.heap.size := by omega
    have hw2s := hg2.size
    have hg02 : w.grownBy w2 none := hgAB.andThen hg2 fun j hj => .inl (by simp [Value.ownBlock] at hj; omega)
    have hg03 : w.grownBy w3 none := hg02.andThen hg3 fun j hj => .inl (by have := (hr2.lt j hj).1; omega)
    have hg4 := grown_setCell w3 ⟨w.heap.size, 1, none⟩ (.slice a3 ([] ++ x.b ++ zs).length c3)
    have hg04 : w.grownBy (w3.setCell ⟨w.heap.size, 1, none⟩ (.slice a3 ([] ++ x.b ++ zs).length c3)) none := grown_new hg03 hg4 (Nat.le_refl _)
    refine ⟨a3, _, c3, rfl, hg3.cell (hg2.cell m0 hn2) hn3, hg3.cell (hg2.cell m1 hn2) hn3, hg3.cell (hg2.cell m2 hn2) hn3, ((World.frozen?_of_block (a := ⟨w.heap.size, 1, none⟩) (hg3.block w.heap.size (by omega) hn3)).trans (World.frozen?_of_block (a := ⟨w.heap.size, 1, none⟩) (hg2.block w.heap.size hws hn2))).trans mf, ?_⟩
    rw [List.nil_append] at *
    refine (with_any _ (h.wide.grown0 hg04) n a3 c3 (x.b ++ zs) x.s (by omega) (by omega) (by simp only [List.length_append, List.length_nil]; omega) hseg.2.2.2.1 (by simp only [List.length_append, List.length_nil]; omega) ((hb3.grown hg4 (fun k hk => by cases hk; simp)).mono fun k hk => .inl (.inr (by omega))) (.inl (by rw [hx]; rfl))).mono ?_
    rintro r w' ⟨rfl, hR, hg⟩
    exact ⟨rfl, ⟨_, hR.mono (fun k hk => hk.elim id fun e => .inr (by have := hg04.size; omega)) h.wide.nrb⟩, grown_same hg04 hg⟩
  clear hx hn hj hseg hxv
  subst hWd
  go_wp2_with (first
    | (at_builtin; refine wpList_append_bts _ rfl (.tmp 51) (.tmp 53) rfl (w.heap.size + 1) _ _ _ _ [] (x.b) rfl rfl hlit hbx2 (by first | omega | simp) hss ?_; intro v2 w2 hr2 hg2)
    | (at_builtin; go_must (refine wpList_append_bts _ rfl (.tmp 54) (.tmp 55) rfl (w.heap.size + 1) w2.heap.size _ _ _ _ zs rfl rfl hr2 (hz2.grown hg2 (fun b off len cap e hn e2 => by have h1 := hz.lt e hn; have h2 : some b = some (w.heap.size + 1) := e2; cases h2; omega)) (by simp; omega) (by have := hg2.size; omega) ?_); intro v3 w3 hr3 hg3; obtain ⟨a3, L3, c3, rfl, k0, k1, k2, kf, hcall⟩ := key v2 w2 hr2 hg2 v3 w3 hr3 hg3))
  refine hcall.mono ?_
  rintro r w4 ⟨rfl, hR, hg⟩
  go_wp2
  go_ret
  exact ⟨rfl, hR, hg⟩
set_option maxRecDepth 100000 in
set_option maxHeartbeats 2000000 in
/-- belfryref03.Append, where it has room: the segment begins. -/
theorem rappend_none (w : World) {rb : Nat} {N : Nat → Prop} {l : List Sg} {root : List Int} (h : Rsk w rb N l root) (n : Int) (hx : getS n l = none) (hn0 : 0 ≤ n) (hn1 : n < 9223372036854775808) (az : Option Addr) (capz : Nat) (zs : List Int) (hz : Bts w.heap.size w (.slice az zs.length capz) zs) (hr : zs.length ≤ 1024) (hl : l.length < 128) :
    Calls Try.prog 10 #[.pointer (some ⟨rb, 0, none⟩), .int .i64 n, .slice az zs.length capz] w fun r w' => r = .returned (.int .i64 0) ∧ (∃ v', Rsk w' rb (Or_ N w) (putS ⟨n, v', ([] : List Int) ++ zs, 0⟩ l) root) ∧ w.grownBy w' (some rb) := by
  obtain ⟨sv, c0, hs⟩ := h.c0
  obtain ⟨a, cap, rfl⟩ := hs.shape
  have hlen := h.len
  skip
  have hd0 : decide (n < 0) = false := by simp; omega
  go_enter Try.func10, Try.ntmps10
  go_wp2_with fail
  refine (rfind_any w h n).mono ?_
  rintro r w1 ⟨i, rfl, rfl, hf⟩
  obtain rfl := hf.none' hx
  have hgA0 := World.grownBy_alloc w (.cells #[.int .i64 n, .slice none 0 0, .int .i64 0] 64) none
  have c0' := grown_cell hgA0 c0
  have hdl : decide ((l.length : Int) ≥ 128) = false := by simp; omega
  have hw1 : IntKind.i64.wrap (0 + (zs.length : Int)) = zs.length := by rw [IntKind.wrap_i64]; omega
  have hbx : Bts w.heap.size w (.slice none 0 0) ([] : List Int) := (Btx.nil (fun _ => True) w).1
  have hgA := World.grownBy_alloc w (.cells #[.int .i64 n, .slice none 0 0, .int .i64 0] 64) none
  have hd2 : decide ((zs.length : Int) > 1024) = false := by simp; omega
  have hgAB := grown_none hgA (World.grownBy_alloc (w.alloc (.cells #[.int .i64 n, .slice none 0 0, .int .i64 0] 64)) (.cells #[] 5) none)
  have hsz : (w.alloc (.cells #[.int .i64 n, .slice none 0 0, .int .i64 0] 64)).heap.size = w.heap.size + 1 := by simp
  have hlit := lit_none (w.alloc (.cells #[.int .i64 n, .slice none 0 0, .int .i64 0] 64)) (w.heap.size + 1) (by simp)
  rw [hsz] at hlit
  have hbx2 := hbx.grown0 hgAB
  have hz2 := hz.grown0 hgAB
  have hss : w.heap.size + 1 ≤ ((w.alloc (.cells #[.int .i64 n, .slice none 0 0, .int .i64 0] 64)).alloc (.cells #[] 5)).heap.size := by simp
  have m0 : ((w.alloc (.cells #[.int .i64 n, .slice none 0 0, .int .i64 0] 64)).alloc (.cells #[] 5)).cell? ⟨w.heap.size, 0, none⟩ = some (.int .i64 n) := by simp
  have m1 : ((w.alloc (.cells #[.int .i64 n, .slice none 0 0, .int .i64 0] 64)).alloc (.cells #[] 5)).cell? ⟨w.heap.size, 1, none⟩ = some (.slice none 0 0) := by simp
  have m2 : ((w.alloc (.cells #[.int .i64 n, .slice none 0 0, .int .i64 0] 64)).alloc (.cells #[] 5)).cell? ⟨w.heap.size, 2, none⟩ = some (.int .i64 0) := by simp
  have mf : ((w.alloc (.cells #[.int .i64 n, .slice none 0 0, .int .i64 0] 64)).alloc (.cells #[] 5)).frozen? ⟨w.heap.size, 1, none⟩ = false := by simp
  have hzz : ∀ z ∈ [] ++ ([] : List Int) ++ zs, 0 ≤ z ∧ z < 256 := fun z hz' => (List.mem_append.1 hz').elim (fun e => hbx.2 z (by simp at e ⊢; try exact e)) (hz.2 z)
  generalize hWd : (w.alloc (.cells #[.int .i64 n, .slice none 0 0, .int .i64 0] 64)).alloc (.cells #[] 5) = Wd at hlit hbx2 hz2 hss m0 m1 m2 mf hgAB
  have key : ∀ (v2 : Value) (w2 : World), w2.ownsRow (w.heap.size + 1) 5 1 v2 (0 + (([] : List Int)).length) (([] ++ ([] : List Int)).map (Value.int .u8)) → Wd.grownBy w2 (Value.slice (some ⟨w.heap.size + 1, 0, none⟩) 0 0).ownBlock → ∀ (v3 : Value) (w3 : World), w3.ownsRow (w.heap.size + 1) 5 1 v3 (0 + (([] : List Int)).length + zs.length) (([] ++ ([] : List Int) ++ zs).map (Value.int .u8)) → w2.grownBy w3 v2.ownBlock →
      ∃ a3 L3 c3, v3 = .slice a3 L3 c3 ∧ w3.cell? ⟨w.heap.size, 0, none⟩ = some (.int .i64 n) ∧ w3.cell? ⟨w.heap.size, 1, none⟩ = some (.slice none 0 0) ∧ w3.cell? ⟨w.heap.size, 2, none⟩ = some (.int .i64 0) ∧ w3.frozen? ⟨w.heap.size, 1, none⟩ = false ∧
      Calls Try.prog 29 #[.pointer (some ⟨rb, 0, none⟩), .agg #[.int .i64 n, .slice a3 L3 c3, .int .i64 0]] (w3.setCell ⟨w.heap.size, 1, none⟩ (.slice a3 L3 c3)) fun r w' => r = .returned (.tuple #[]) ∧ (∃ v', Rsk w' rb (Or_ N w) (putS ⟨n, v', ([] : List Int) ++ zs, 0⟩ l) root) ∧ w.grownBy w' (some rb) := by
    intro v2 w2 hr2 hg2 v3 w3 hr3 hg3
    have hb3 := Btx.of_own hr3 hzz
    obtain ⟨a3, c3, rfl⟩ := hb3.1.shape
    have hn2 : some w.heap.size ≠ (Value.slice (some ⟨w.heap.size + 1, 0, none⟩) 0 0).ownBlock := by simp [Value.ownBlock]
    have hn3 : some w.heap.size ≠ v2.ownBlock := fun e => by have := (hr2.lt _ e.symm).1; omega
    have hsW := hgAB.size
    have hws : w.heap.size < Wd.heap.size := by omega
    have hw2s := hg2.size
    have hg02 : w.grownBy w2 none := hgAB.andThen hg2 fun j hj => .inl (by simp [Value.ownBlock] at hj; omega)
    have hg03 : w.grownBy w3 none := hg02.andThen hg3 fun j hj => .inl (by have := (hr2.lt j hj).1; omega)
    have hg4 := grown_setCell w3 ⟨w.heap.size, 1, none⟩ (.slice a3 ([] ++ ([] : List Int) ++ zs).length c3)
    have hg04 : w.grownBy (w3.setCell ⟨w.heap.size, 1, none⟩ (.slice a3 ([] ++ ([] : List Int) ++ zs).length c3)) none := grown_new hg03 hg4 (Nat.le_refl _)
    refine ⟨a3, _, c3, rfl, hg3.cell (hg2.cell m0 hn2) hn3, hg3.cell (hg2.cell m1 hn2) hn3, hg3.cell (hg2.cell m2 hn2) hn3, ((World.frozen?_of_block (a := ⟨w.heap.size, 1, none⟩) (hg3.block w.heap.size (by omega) hn3)).trans (World.frozen?_of_block (a := ⟨w.heap.size, 1, none⟩) (hg2.block w.heap.size hws hn2))).trans mf, ?_⟩
    rw [List.nil_append] at *
    refine (with_any _ (h.wide.grown0 hg04) n a3 c3 (([] : List Int) ++ zs) 0 (by omega) (by omega) (by simp only [List.length_append, List.length_nil]; omega) (by omega) (by simp only [List.length_append, List.length_nil]; omega) ((hb3.grown hg4 (fun k hk => by cases hk; simp)).mono fun k hk => .inl (.inr (by omega))) (.inr hl)).mono ?_
    rintro r w' ⟨rfl, hR, hg⟩
    exact ⟨rfl, ⟨_, hR.mono (fun k hk => hk.elim id fun e => .inr (by have := hg04.size; omega)) h.wide.nrb⟩, grown_same hg04 hg⟩
  clear hx
  subst hWd
  go_wp2_with (first
    | (at_builtin; refine wpList_append_bts _ rfl (.tmp 51) (.tmp 53) rfl (w.heap.size + 1) _ _ _ _ [] (([] : List Int)) rfl rfl hlit hbx2 (by first | omega | simp) hss ?_; intro v2 w2 hr2 hg2)
    | (at_builtin; go_must (refine wpList_append_bts _ rfl (.tmp 54) (.tmp 55) rfl (w.heap.size + 1) w2.heap.size _ _ _ _ zs rfl rfl hr2 (hz2.grown hg2 (fun b off len cap e hn e2 => by have h1 := hz.lt e hn; have h2 : some b = some (w.heap.size + 1) := e2; cases h2; omega)) (by simp; omega) (by have := hg2.size; omega) ?_); intro v3 w3 hr3 hg3; obtain ⟨a3, L3, c3, rfl, k0, k1, k2, kf, hcall⟩ := key v2 w2 hr2 hg2 v3 w3 hr3 hg3))
  refine hcall.mono ?_
  rintro r w4 ⟨rfl, hR, hg⟩
  go_wp2
  go_ret
  exact ⟨rfl, hR, hg⟩
set_option maxRecDepth 100000 in
set_option maxHeartbeats 2000000 in
theorem rappend_long (w : World) {rb : Nat} {N : Nat → Prop} {l : List Sg} {root : List Int} (h : Rsk w rb N l root) (n : Int) {x : Sg} (hx : getS n l = some x) (az : Option Addr) (capz : Nat) (zs : List Int) (hzl : zs.length ≤ 2000) (hr : 1024 < x.b.length + zs.length) :
    Calls Try.prog 10 #[.pointer (some ⟨rb, 0, none⟩), .int .i64 n, .slice az zs.length capz] w fun r w' => r = .returned (.int .i64 31) ∧ w.grownBy w' none := by
  obtain ⟨sv, c0, hs⟩ := h.c0
  obtain ⟨a, cap, rfl⟩ := hs.shape
  have hlen := h.len
  have hseg := h.seg x (getS_mem hx).1
  have hn := (getS_mem hx).2
  have hd0 : decide (n < 0) = false := by simp; omega
  go_enter Try.func10, Try.ntmps10
  go_wp2_with fail
  refine (rfind_any w h n).mono ?_
  rintro r w1 ⟨i, rfl, rfl, hf⟩
  obtain ⟨j, rfl, hj, hjl⟩ := hf.some' hx
  obtain ⟨b, off, rfl, hN, hbl, d0, d1, d2⟩ := hs.at hj
  obtain ⟨xa, xc, hxv⟩ := hseg.2.2.2.2.2.1.shape
  rw [hxv] at d1
  rw [hn] at d0
  have hd1 : decide ((j : Int) < 0) = false := by simp
  have hd1' : decide ((j : Int) ≥ 0) = true := by simp
  have hji : (j : Int) < (l.length : Int) := by omega
  have hgA0 := World.grownBy_alloc w (.cells #[.int .i64 n, .slice none 0 0, .int .i64 0] 64) none
  have c0' := grown_cell hgA0 c0
  have d0' := grown_cell hgA0 d0
  have d1' := grown_cell hgA0 d1
  have d2' := grown_cell hgA0 d2
  have hw1 : IntKind.i64.wrap ((x.b.length : Int) + zs.length) = x.b.length + zs.length := by rw [IntKind.wrap_i64]; omega
  clear hx hn hj hseg hxv
  by_cases hl : zs.length > 1024
  · have hd2 : decide ((zs.length : Int) > 1024) = true := by simp; omega
    go_wp2
    go_ret
    exact ⟨rfl, World.grownBy_alloc w _ none⟩
  · have hd2 : decide ((zs.length : Int) > 1024) = false := by simp; omega
    have hd3 : decide ((x.b.length : Int) + zs.length > 1024) = true := by simp; omega
    go_wp2
    go_ret
    exact ⟨rfl, World.grownBy_alloc w _ none⟩
set_option maxRecDepth 100000 in
set_option maxHeartbeats 2000000 in
theorem rappend_bad (w : World) {rb : Nat} {N : Nat → Prop} {l : List Sg} {root : List Int} (h : Rsk w rb N l root) (n : Int) (hx : getS n l = none) (az : Option Addr) (capz : Nat) (zs : List Int) (hzl : zs.length ≤ 2000) (hr : n < 0 ∨ 1024 < zs.length ∨ 128 ≤ l.length) :
    Calls Try.prog 10 #[.pointer (some ⟨rb, 0, none⟩), .int .i64 n, .slice az zs.length capz] w fun r w' => r = .returned (.int .i64 31) ∧ w.grownBy w' none := by
  obtain ⟨sv, c0, hs⟩ := h.c0
  obtain ⟨a, cap, rfl⟩ := hs.shape
  have hlen := h.len
  have hgA0 := World.grownBy_alloc w (.cells #[.int .i64 n, .slice none 0 0, .int .i64 0] 64) none
  have c0' := grown_cell hgA0 c0
  have hw1 : IntKind.i64.wrap (0 + (zs.length : Int)) = zs.length := by rw [IntKind.wrap_i64]; omega
  go_enter Try.func10, Try.ntmps10
  go_wp2_with fail
  refine (rfind_any w h n).mono ?_
  rintro r w1 ⟨i, rfl, rfl, hf⟩
  obtain rfl := hf.none' hx
  clear hx
  by_cases hn : n < 0
  · have hd0 : decide (n < 0) = true := by simpa using hn
    clear hn hr
    go_wp2
    go_ret
    exact ⟨rfl, World.grownBy_alloc w _ none⟩
  have hd0 : decide (n < 0) = false := by simpa using hn
  by_cases hl : zs.length > 1024
  · have hd2 : decide ((zs.length : Int) > 1024) = true := by simp; omega
    clear hn hr
    go_wp2
    go_ret
    exact ⟨rfl, World.grownBy_alloc w _ none⟩
  have hd2 : decide ((zs.length : Int) > 1024) = false := by simp; omega
  have hdl : decide ((l.length : Int) ≥ 128) = true := by simp; omega
  clear hn hr
  go_wp2
  go_ret
  exact ⟨rfl, World.grownBy_alloc w _ none⟩
/-- belfryref03.Append. -/
theorem rappend_any (w : World) {rb : Nat} {N : Nat → Prop} {l : List Sg} {root : List Int} (h : Rsk w rb N l root) (n : Int) (h1 : n < 9223372036854775808) (v : Value) (zs : List Int) (hz : Bts w.heap.size w v zs) (hzl : zs.length ≤ 2000) :
    Calls Try.prog 10 #[.pointer (some ⟨rb, 0, none⟩), .int .i64 n, v] w fun r w' =>
      (fits n zs.length l = true ∧ r = .returned (.int .i64 0) ∧ (∃ v', Rsk w' rb (Or_ N w) (putS ⟨n, v', (orS n l).b ++ zs, (orS n l).s⟩ l) root) ∧ w.grownBy w' (some rb)) ∨
      (fits n zs.length l = false ∧ r = .returned (.int .i64 31) ∧ w.grownBy w' none) := by
  obtain ⟨a, cap, rfl⟩ := hz.shape
  cases hx : getS n l with
  | some x =>
    have hn := (getS_mem hx).2
    have h0 := (h.seg x (getS_mem hx).1).1
    have h0' : 0 ≤ n := by omega
    have ho : orS n l = x := by simp [orS, hx]
    have hf : fits n zs.length l = decide (x.b.length + zs.length ≤ 1024) := by simp [fits, ho, hx, h0']
    rw [hf, ho]
    by_cases hr : x.b.length + zs.length ≤ 1024
    · refine (rappend_some w h n hx a cap zs hz hr).mono ?_
      rintro r w' ⟨hr1, hr2, hr3⟩
      exact .inl ⟨by simpa using hr, hr1, hr2, hr3⟩
    · refine (rappend_long w h n hx a cap zs hzl (by omega)).mono ?_
      rintro r w' ⟨hr1, hr2⟩
      exact .inr ⟨by simpa using hr, hr1, hr2⟩
  | none =>
    have ho : orS n l = ⟨n, .slice none 0 0, [], 0⟩ := by simp [orS, hx]
    have hf : fits n zs.length l = (decide (0 ≤ n) && decide (zs.length ≤ 1024) && decide (l.length < 128)) := by simp [fits, ho, hx]
    rw [hf, ho]
    by_cases hr : n < 0 ∨ 1024 < zs.length ∨ 128 ≤ l.length
    · refine (rappend_bad w h n hx a cap zs hzl hr).mono ?_
      rintro r w' ⟨hr1, hr2⟩
      refine .inr ⟨?_, hr1, hr2⟩
      rcases hr with hr | hr | hr
      · have : ¬ 0 ≤ n := by omega
        simp [this]
      · have : ¬ zs.length ≤ 1024 := by omega
        simp [this]
      · have : ¬ l.length < 128 := by omega
        simp [this]
    · have e1 : 0 ≤ n := by omega
      have e2 : zs.length ≤ 1024 := by omega
      have e3 : l.length < 128 := by omega
      refine (rappend_none w h n hx e1 h1 a cap zs hz e2 e3).mono ?_
      rintro r w' ⟨hr1, hr2, hr3⟩
      exact .inl ⟨by simp [e1, e2, e3], hr1, hr2, hr3⟩
end Go.Proofs.Ytmhpbemfejkdaaa
