/- Fields that the call itself made, appended to a list of its own. -/
import Derived.Test.YtblnhcnfeagjhaaGreatDoorCCfin
import Derived.ArgAppend
namespace Go.Proofs.YtblnhcnfeagjhaaGreatDoor.C
open Go.RowKit Go.Shelf Plain Go.IntWalk
set_option linter.unusedVariables false
/-- A field that the call itself made: its bytes lie in memory of its own. -/
def okC (s : Nat) (W : World) (x : Fd) : Prop := (W.ownsRow s 5 1 (.slice x.a x.len x.cap) x.zs.length (x.zs.map (Value.int .u8)) ∧ ∀ z ∈ x.zs, 0 ≤ z ∧ z < 256) ∧ -9223372036854775808 ≤ x.tag ∧ x.tag ≤ 9223372036854775807
theorem okC.kept {s : Nat} {W W' : World} {row : Option Nat} {x : Fd} (h : okC s W x) (hg : W.grownBy W' row) (hne : ∀ k, row = some k → ∀ c f, W.heap[k]? ≠ some (.cells c 5 f)) : okC s W' x := by
  refine ⟨⟨h.1.1.kept hg ?_, h.1.2⟩, h.2⟩
  rcases h.1.1.2 with ⟨e, _⟩ | ⟨g, c, cur, e, _, hgb, _⟩
  · rw [e]; exact .inl rfl
  · rw [e]
    refine .inr fun e' => ?_
    exact hne g (by simpa [Value.ownBlock] using e'.symm) _ _ hgb
theorem okC.ok {s : Nat} {W : World} {x : Fd} (h : okC s W x) : x.ok W.heap.size W := ⟨Bts.of_own h.1.1 h.1.2, h.2⟩
/-- 'append(l, f)', l the call's own list: the list lies where it lay, or in new memory. -/
theorem run_append_field (w : World) (s ty : Nat) (v : Value) (xs : List Fd) (x : Fd) (hown : w.ownsRow s 116 2 v xs.length (cellsL xs)) (ad : Addr) (hc : ∀ j u, (cellsF x)[j]? = some u → w.cell? (ad.add j) = some u)
    (hlen : xs.length ≤ 4096) (hs : s ≤ w.heap.size) :
    ∃ v' w', (Builtin.append_ #[113, 113] ty #[v, .slice (some ad) 1 1]).run Tryz.prog w = .ok v' w' ∧ w'.ownsRow s 116 2 v' (xs.length + 1) (cellsL (xs ++ [x])) ∧ w.grownBy w' v.ownBlock ∧ (∀ k, v'.ownBlock = some k → v.ownBlock = some k ∨ w.heap.size ≤ k) := by
  obtain ⟨i0, hi, hz0, hz1, hz2⟩ := info_parts Tryz.info116
  have h1 : ∀ u ∈ cellsF x, u.oneCell' = true := by
    intro u hu
    simp only [cellsF, List.mem_cons, List.not_mem_nil, or_false] at hu
    rcases hu with rfl | rfl <;> rfl
  obtain ⟨v', w', hrun, hr, hg, _⟩ := run_append_own (P := Tryz.prog) w s 113 ty 116 i0 (.agg #[.int .i64 0, .slice none 0 0]) 2 32 Tryz.underlying113 hi hz0 hz1 hz2 rfl (by decide) v xs.length _ hown ad 1 1 (cellsF x) rfl hc h1 (by unfold maxLen; omega) (by omega) hs
  refine ⟨v', w', hrun, by rw [cellsL_append]; simpa [cellsL] using hr, hg, ?_⟩
  intro k hk
  rcases hown.2 with ⟨rfl, h0⟩ | ⟨g, cap, cur, rfl, _, hgb, hnc, hcm, hcs, htk⟩
  · obtain ⟨v2, w2, hrun2, hr2, _, _⟩ := run_append_own (P := Tryz.prog) w w.heap.size 113 ty 116 i0 (.agg #[.int .i64 0, .slice none 0 0]) 2 32 Tryz.underlying113 hi hz0 hz1 hz2 rfl (by decide) (.slice none 0 0) 0 [] (World.ownsRow_nil _ _ _ _) ad 1 1 (cellsF x) rfl hc h1 (by unfold maxLen; omega) (by omega) (Nat.le_refl _)
    rw [hrun] at hrun2
    cases hrun2
    exact .inr (hr2.lt k hk).1
  · by_cases hroom : xs.length + 1 ≤ cap
    · have := run_append_room (P := Tryz.prog) w 113 ty 116 i0 Tryz.underlying113 hi g xs.length cap cur hgb ad 1 1 (cellsF x) (by rw [hz1]; rfl) hc h1 hroom (by rw [hz1, hcs]; simp [cellsF]; omega)
      rw [hrun] at this
      cases this
      exact .inl hk
    · have holds : ∀ j u, (cellsL xs)[j]? = some u → w.cell? ((⟨g, 0, none⟩ : Addr).add j) = some u := hown.cells (g := g) rfl
      obtain ⟨v2, w2, hrun2, hr2, _⟩ := run_append_arg_grows (P := Tryz.prog) w 113 ty 116 i0 (.agg #[.int .i64 0, .slice none 0 0]) 2 32 Tryz.underlying113 hi hz0 hz1 hz2 rfl (by decide) ⟨g, 0, none⟩ xs.length cap (cellsL xs) (cellsL_length xs) holds ad 1 1 (cellsF x) rfl hc (by omega) (by unfold maxLen; omega) (by omega)
      rw [hrun] at hrun2
      cases hrun2
      exact .inr (hr2.lt k hk).1
end Go.Proofs.YtblnhcnfeagjhaaGreatDoor.C
