/- codec.first at every slice of bytes: the field with which they begin, or none. -/
import Derived.Test.YtmahpceokpajgaaDoorMcb
namespace Go.Proofs.YtmahpceokpajgaaDoor.C
open Go.RowKit Go.Shelf Plain Go.IntWalk
set_option linter.unusedVariables false

/-- Do bytes begin with a right field's? -/
def Begins (zs : List Int) : Prop := ∃ x r, x.right = true ∧ zs = encF x ++ r

theorem take3 {zs : List Int} (h : 3 ≤ zs.length) : zs = zs[0]?.getD 0 :: zs[1]?.getD 0 :: zs[2]?.getD 0 :: zs.drop 3 := by
  match zs, h with
  | a :: b :: c :: r, _ => rfl

theorem first_any (n₀ : Nat) (v : Value) (zs : List Int) (w : World) (hz : Bts n₀ w v zs) (hne : zs ≠ []) :
    Calls Tryd.prog 56 #[v] w fun e w' => ((∃ x r, e = .returned (.tuple #[.agg #[.int .i64 x.tag, .slice x.a x.len x.cap], .bool true]) ∧ x.right = true ∧ zs = encF x ++ r ∧ x.ok n₀ w) ∨ (¬ Begins zs ∧ e = .returned (.tuple #[.agg #[.int .i64 0, .slice none 0 0], .bool false]))) ∧ Below w.heap.size w w' := by
  have hz' := hz
  obtain ⟨⟨_, h0⟩ | ⟨b, off, cap, rfl, hb, hl, hm, hc⟩, hbyte⟩ := hz'
  · exact absurd h0 hne
  · by_cases h3 : zs.length < 3
    · refine (first_short _ zs.length cap (by omega) w).mono ?_
      rintro e w' ⟨rfl, hB⟩
      refine ⟨.inr ⟨?_, rfl⟩, hB⟩
      rintro ⟨x, r, _, e⟩
      have := congrArg List.length e
      simp [encF] at this
      omega
    · have hb0 := hbyte (zs[0]?.getD 0) (by simp [show 0 < zs.length by omega])
      have hb1 := hbyte (zs[1]?.getD 0) (by simp [show 1 < zs.length by omega])
      have hb2 := hbyte (zs[2]?.getD 0) (by simp [show 2 < zs.length by omega])
      obtain ⟨N, hN⟩ : ∃ N : Nat, 256 * zs[1]?.getD 0 + zs[2]?.getD 0 = (N : Int) := ⟨Int.toNat (256 * (zs[1]?.getD 0 : Int) + (zs[2]?.getD 0 : Int)), by omega⟩
      have hor := shl_or64 (zs[1]?.getD 0) (zs[2]?.getD 0) hb1.1 hb1.2 hb2.1 hb2.2
      rw [hN] at hor
      have ht3 := take3 (zs := zs) (by omega)
      obtain ⟨sa, hsl, hD⟩ : ∃ sa, ((N : Int) ≤ (zs.length : Int) - 3 → ∀ W, (Instr.slice 23 (.slice (some ⟨b, off, none⟩) zs.length cap) (some (.int .i64 3)) (some (.int .i64 (3 + (N : Int)))) none).run Tryd.prog W = .ok (.slice sa N (cap - 3)) W) ∧ ((N : Int) ≤ (zs.length : Int) - 3 → Bts n₀ w (.slice sa N (cap - 3)) ((zs.take (3 + N)).drop 3)) := by
        by_cases hle : (N : Int) ≤ (zs.length : Int) - 3
        · obtain ⟨sa, h1, _, h2⟩ := slice_cut hz 3 (3 + N) (by omega) (by omega)
          rw [Nat.add_sub_cancel_left] at h1 h2
          refine ⟨sa, fun _ W => ?_, fun _ => h2⟩
          have := h1 W
          rw [Int.natCast_add] at this
          exact this
        · exact ⟨none, fun h => absurd h hle, fun h => absurd h hle⟩
      have hlm : zs.length ≤ 9223372036854775807 := hz.len_le
      refine (first_core b off zs.length cap N _ _ _ (by simp; omega) hlm hb0 hb1 hb2 w (hc 0 (by omega)) (hc 1 (by omega)) (hc 2 (by omega)) hor (by omega) hl (by unfold maxLen at hm; omega) sa (cap - 3) hsl (by
        by_cases h : (zs.length : Int) - 3 < (N : Int)
        · exact .inl h
        · exact .inr (by simpa using h))).mono ?_
      rintro e w' ⟨⟨⟨hle, hr⟩, rfl⟩ | ⟨hno, rfl⟩, hB⟩
      · have hdl : ((zs.take (3 + N)).drop 3).length = N := by rw [List.length_drop, List.length_take]; omega
        refine ⟨.inl ⟨⟨zs[0]?.getD 0, sa, N, cap - 3, (zs.take (3 + N)).drop 3⟩, zs.drop (3 + N), rfl, ?_, ?_, hD hle, ?_, ?_⟩, hB⟩
        · show rightB _ ((zs.take (3 + N)).drop 3).length = true
          rw [hdl]; exact hr
        · have e1 : (N : Int) / 256 = zs[1]?.getD 0 := by omega
          have e2 : (N : Int) % 256 = zs[2]?.getD 0 := by omega
          simp only [encF, hdl, e1, e2, List.cons_append]
          conv => lhs; rw [ht3]
          congr 3
          conv => lhs; rw [← List.take_append_drop N (zs.drop 3)]
          rw [List.drop_drop, List.drop_take, Nat.add_sub_cancel_left]
        · show (-9223372036854775808 : Int) ≤ zs[0]?.getD 0
          omega
        · show zs[0]?.getD 0 ≤ (9223372036854775807 : Int)
          omega
      · refine ⟨.inr ⟨?_, rfl⟩, hB⟩
        rintro ⟨x, r, hr, e⟩
        apply hno
        have hxl := rightB_true hr
        have e0 : zs[0]?.getD 0 = x.tag := by rw [e]; rfl
        have e1 : zs[1]?.getD 0 = (x.zs.length : Int) / 256 := by rw [e]; rfl
        have e2 : zs[2]?.getD 0 = (x.zs.length : Int) % 256 := by rw [e]; rfl
        have e3 : N = x.zs.length := by omega
        have e4 := congrArg List.length e
        rw [List.length_append] at e4
        simp only [encF, List.length_cons] at e4
        refine ⟨by omega, ?_⟩
        rw [e0, e3]; exact hr
end Go.Proofs.YtmahpceokpajgaaDoor.C
