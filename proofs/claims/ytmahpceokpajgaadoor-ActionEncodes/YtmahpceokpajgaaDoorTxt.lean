/- belfryref09.Text. -/
import Derived.Test.YtmahpceokpajgaaDoorSum
import Derived.Test.YtmahpceokpajgaaDoorAbs
namespace Go.Proofs.YtmahpceokpajgaaDoor
open Go.RowKit Go.IntWalk Go.Maps Go.Shelf
set_option linter.unusedVariables false
/-- What the loop has: the figures so far, and what is left of the number. -/
def Dg (n m : Int) (s : K) : Prop := (s = [] ∧ m = n) ∨ (s ≠ [] ∧ Lib.decDigits n.natAbs = (if m = 0 then s else Lib.decDigits m.natAbs ++ s))
theorem dig_bt (d : Nat) (hd : d < 10) : (⟨#[48, 49, 50, 51, 52, 53, 54, 55, 56, 57]⟩ : ByteArray).extract d (d + 1) = bt [UInt8.ofNat (48 + d)] := by
  match d, hd with
  | 0, _ | 1, _ | 2, _ | 3, _ | 4, _ | 5, _ | 6, _ | 7, _ | 8, _ | 9, _ => rfl
theorem Dg.step {n m q : Int} {s : K} {d : Nat} (h : Dg n m s) (hm : m ≠ 0 ∨ s = []) (h1 : q.natAbs = m.natAbs / 10) (h2 : d = m.natAbs % 10) (h3 : q = 0 ↔ m.natAbs / 10 = 0) : Dg n q ([UInt8.ofNat (48 + d)] ++ s) := by
  refine .inr ⟨by simp, ?_⟩
  have key : Lib.decDigits m.natAbs = (if q = 0 then [UInt8.ofNat (48 + d)] else Lib.decDigits q.natAbs ++ [UInt8.ofNat (48 + d)]) := by
    rw [Lib.decDigits]
    split
    · rename_i h
      rw [if_pos (h3.2 (by omega)), show d = m.natAbs by omega]
    · rename_i h
      rw [if_neg (fun e => by have := h3.1 e; omega), h1, h2]
  rcases h with ⟨rfl, rfl⟩ | ⟨hs, he⟩
  · rw [key]; split <;> simp
  · have hm0 : m ≠ 0 := hm.resolve_right hs
    rw [he, if_neg hm0, key]
    split <;> simp
theorem Dg.len {n m : Int} {s : K} (h : Dg n m s) (hn : In64 n) : s.length ≤ 21 := by
  rcases h with ⟨rfl, _⟩ | ⟨_, h⟩
  · simp
  · have h1 : (Lib.decDigits n.natAbs).length ≤ 21 := by
      have := itoa_len hn
      unfold Lib.itoa at this
      split at this
      · simp at this; omega
      · rw [show n.natAbs = n.toNat by omega]; exact this
    rw [h] at h1
    split at h1
    · exact h1
    · simp at h1; omega
theorem str_nil (s : K) : (bt s).toList.isEmpty = decide (s = []) := by
  rw [bt_toList]
  cases s <;> simp
set_option maxRecDepth 100000 in
set_option maxHeartbeats 1000000 in
theorem text_any (w : World) (n : Int) (hn : In64 n) : Calls Tryd.prog 18 #[.int .i64 n] w fun e w' => e = .returned (.string (bt (Lib.itoa n))) ∧ w' = w := by
  go_enter Tryd.func18, Tryd.ntmps18
  go_wp2_with fail
  go_loop [3, 4] (fun v x => ∃ (s : K) (m : Int), v = .string (bt s) ∧ x = .int .i64 m ∧ In64 m ∧ Hid (Dg n m s))
    (fun v x => 2 * (intOf x).natAbs + (match v with | .string t => if t.size = 0 then 1 else 0 | _ => 0))
  case atStart => exact ⟨[], n, rfl, rfl, hn, ⟨.inl ⟨rfl, rfl⟩⟩⟩
  case round =>
    obtain ⟨s, m, rfl, rfl, hm, hD⟩ := hrel
    have hl : s.length ≤ 21 := hD.out.len hn
    by_cases hgo : m ≠ 0 ∨ s = []
    · obtain ⟨d, hd⟩ : ∃ d : Nat, d = m.natAbs % 10 := ⟨_, rfl⟩
      have hd10 : d < 10 := by omega
      obtain ⟨q, hq⟩ : ∃ q, Int.tdiv m 10 = q := ⟨_, rfl⟩
      obtain ⟨r, hr⟩ : ∃ r, Int.tmod m 10 = r := ⟨_, rfl⟩
      have hqm := Int.mul_tdiv_add_tmod m 10
      rw [hq, hr] at hqm
      have hrs : r = d ∧ 0 ≤ m ∨ r = -(d : Int) ∧ m < 0 := by
        by_cases h0 : 0 ≤ m
        · have := Int.tmod_nonneg 10 h0
          have h2 := Int.tmod_lt_of_pos m (show (0 : Int) < 10 by decide)
          left; omega
        · have := Int.tmod_nonneg 10 (show 0 ≤ -m by omega)
          have h2 := Int.tmod_lt_of_pos (-m) (show (0 : Int) < 10 by decide)
          rw [Int.neg_tmod] at this h2
          right; omega
      have hqa : q.natAbs = m.natAbs / 10 := by omega
      have hq0 : q = 0 ↔ m.natAbs / 10 = 0 := by omega
      have hqi : In64 q := by obtain ⟨a, b⟩ := hm; constructor <;> omega
      have hdig := dig_bt d hd10
      obtain ⟨c, hc0⟩ : ∃ c, UInt8.ofNat (48 + d) = c := ⟨_, rfl⟩
      rw [hc0] at hdig
      have hD2 : Hid (Dg n q (c :: s)) := ⟨by
        have := hD.out.step hgo hqa hd hq0
        rw [hc0] at this
        exact this⟩
      have hlim : ¬ 9223372036854775807 < (bt [c]).size + (bt s).size := by rw [bt_size, bt_size]; simp; omega
      have happ : bt [c] ++ bt s = bt (c :: s) := bt_app _ _
      have hmeas : Hid (2 * q.natAbs + 0 < 2 * m.natAbs + (if s.length = 0 then 1 else 0)) := ⟨by
        rcases hgo with h | h
        · split <;> omega
        · subst h; simp; omega⟩
      have hc : Hid (m = 0 ∧ s = [] ∨ ¬ m = 0) := ⟨by
        by_cases h : m = 0
        · exact .inl ⟨h, hgo.resolve_left (fun h' => h' h)⟩
        · exact .inr h⟩
      have hdi : (d : Int) < 10 := by omega
      clear hqm hqa hq0 hd hgo hd10 hc0 hl
      rcases hrs with ⟨hrd, hsg⟩ | ⟨hrd, hsg⟩
      · subst hrd
        have hdc : decide ((d : Int) < 0) = false := by simp
        rcases hc.out with ⟨hm0, hse⟩ | hm0
        · have hq1 : (bt s).toList.isEmpty = true := by rw [str_nil]; simpa using hse
          subst hm0
          subst hse
          have hq2 : q = 0 := by rw [← hq]; rfl
          have hd2 : d = 0 := by have : Int.tmod 0 10 = 0 := rfl; omega
          subst hq2 hd2
          have hfirst : ({ data := #[48, 49, 50, 51, 52, 53, 54, 55, 56, 57] } : ByteArray).extract 0 1 ++ bt [] = bt [c] := by
            rw [show bt [c] = ({ data := #[48, 49, 50, 51, 52, 53, 54, 55, 56, 57] } : ByteArray).extract 0 1 from hdig.symm]; rfl
          clear hsg hq hr hlim happ hdig
          go_wp2_with fail
          go_round
          case rel => exact ⟨[c], 0, rfl, rfl, hqi, hD2⟩
          case measure => have := hmeas.out; simp only [intOf, bt_size, List.length_cons]; rw [if_neg (show ¬ (([] : K).length + 1 = 0) by omega)]; exact this
        · clear hsg
          go_wp2_with fail
          go_round
          case rel => exact ⟨_, q, rfl, rfl, hqi, hD2⟩
          case measure => have := hmeas.out; simp only [intOf, bt_size, List.length_cons]; rw [if_neg (show ¬ (s.length + 1 = 0) by omega)]; exact this
      · have hng : wrap64 (-r) = d := wrp _ _ (by omega) (by constructor <;> omega)
        have hm0 : ¬ m = 0 := by omega
        by_cases hd0 : d = 0
        · subst hd0
          have hdc : decide (r < 0) = false := by simp; omega
          have hr0 : r = 0 := by omega
          subst hr0
          clear hng hsg hrd
          go_wp2_with fail
          go_round
          case rel => exact ⟨_, q, rfl, rfl, hqi, hD2⟩
          case measure => have := hmeas.out; simp only [intOf, bt_size, List.length_cons]; rw [if_neg (show ¬ (s.length + 1 = 0) by omega)]; exact this
        · have hdc : decide (r < 0) = true := by simp; omega
          clear hsg hrd hd0
          go_wp2_with fail
          go_round
          case rel => exact ⟨_, q, rfl, rfl, hqi, hD2⟩
          case measure => have := hmeas.out; simp only [intOf, bt_size, List.length_cons]; rw [if_neg (show ¬ (s.length + 1 = 0) by omega)]; exact this
    · have hm0 : m = 0 := by omega
      have hs : s ≠ [] := fun h => hgo (.inr h)
      subst hm0
      have hq1 : (bt s).toList.isEmpty = false := by rw [str_nil]; simpa using hs
      have hfin : Hid (Lib.decDigits n.natAbs = s) := ⟨by
        rcases hD.out with ⟨h, _⟩ | ⟨_, h⟩
        · exact absurd h hs
        · simpa using h⟩
      by_cases hn0 : n < 0
      · have hlim : ¬ 9223372036854775807 < 1 + (bt s).size := by rw [bt_size]; omega
        have e : Hid (Lib.itoa n = [45] ++ s) := ⟨by unfold Lib.itoa; rw [if_pos hn0, hfin.out]; rfl⟩
        have h45 : (⟨#[45]⟩ : ByteArray) = bt [45] := rfl
        have hdn : decide (n < 0) = true := by simpa using hn0
        clear hs hgo hn0
        go_wp2_with fail
        go_ret
        exact ⟨by rw [e.out]; rfl, rfl⟩
      · have e : Hid (Lib.itoa n = s) := ⟨by unfold Lib.itoa; rw [if_neg hn0, ← hfin.out, show n.natAbs = n.toNat by omega]⟩
        have hdn : decide (n < 0) = false := by simpa using hn0
        clear hs hgo hn0
        go_wp2_with fail
        go_ret
        exact ⟨by rw [e.out]; rfl, rfl⟩
end Go.Proofs.YtmahpceokpajgaaDoor
