/- What the document's answer for a list's bytes (belfryref01.Encode) returns, for every list of fields. -/
import Derived.Test.YtmahpceokpajgaaDoorCDeca
namespace Go.Proofs.YtmahpceokpajgaaDoor.C
open Go.RowKit Go.Shelf Plain Go.IntWalk
set_option linter.unusedVariables false

set_option maxRecDepth 100000 in
set_option maxHeartbeats 1000000 in
theorem refenc_long (a : Option Addr) (len cap : Nat) (hl : (200 : Int) < (len : Int)) (w : World) :
    Calls Tryd.prog 26 #[.slice a len cap] w fun e w' => e = .returned (.tuple #[.slice none 0 0, .int .i64 11]) ∧ w = w' := by
  go_enter Tryd.func26, Tryd.ntmps26
  go_wp2
  go_ret2
  exact ⟨rfl, rfl⟩

set_option maxRecDepth 100000 in
set_option maxHeartbeats 4000000 in
theorem refenc_core (a : Option Addr) (len cap : Nat) (hl : decide ((200 : Int) < (len : Int)) = false) (w : World) (xs : List Fd) (f : Nat → Fd) (hfx : Hid (∀ j, j < len → xs[j]? = some (f j))) (HX : Hid (xs.length = len))
    (hc : ∀ j, j < len → ∃ bb off, a = some ⟨bb, off, none⟩ ∧ w.cell? ⟨bb, off + j * 2, none⟩ = some (.int .i64 (f j).tag) ∧ w.cell? ⟨bb, off + j * 2 + 1, none⟩ = some (.slice (f j).a (f j).len (f j).cap) ∧ (f j).ok w.heap.size w) :
    Calls Tryd.prog 26 #[.slice a len cap] w fun e w' => ((∃ v, e = .returned (.tuple #[v, .int .i64 0]) ∧ (∀ j, j < len → (f j).right = true) ∧ w'.ownsRow w.heap.size 5 1 v (encL (xs.take len)).length ((encL (xs.take len)).map (Value.int .u8))) ∨ (e = .returned (.tuple #[.slice none 0 0, .int .i64 11]) ∧ ∃ j, j < len ∧ (f j).right = false)) ∧ Below w.heap.size w w' := by
  have hl2 : len ≤ 200 := by simp at hl; omega
  go_enter Tryd.func26, Tryd.ntmps26
  go_wp2
  go_loopw [4, 5] (fun v i wr => ∃ k : Nat, k ≤ len ∧ i = .int .i64 k ∧ wr.ownsRow w.heap.size 5 1 v (encL (xs.take k)).length ((encL (xs.take k)).map (Value.int .u8)) ∧ Hid (∀ j, j < k → (f j).right = true) ∧ Below w.heap.size w wr) (fun _ i _ => len - (intOf i).toNat)
  case atStart => exact ⟨0, Nat.zero_le _, rfl, World.ownsRow_nil _ _ _ _, fun j hj => by omega, Below.refl _ _⟩
  case round =>
    obtain ⟨k, hk, rfl, hrow, HK, hB⟩ := hrel
    by_cases hlt : k < len
    · obtain ⟨bb, off, rfl, c1, c2, hok⟩ := hc k hlt
      have lb := World.block_lt_of_cell? w _ c1
      have d1 := (hB.cell (p := ⟨bb, off + k * 2, none⟩) lb).trans c1
      have d2 := (hB.cell (p := ⟨bb, off + k * 2 + 1, none⟩) lb).trans c2
      have hlm := hok.len_le
      have hlen := hok.len
      have HLN : Hid ((f k).len = (f k).zs.length) := hlen
      clear hlen
      by_cases hr : (f k).right = true
      · obtain ⟨r1, r2, r3⟩ := rightB_true hr
        have r3' : ((f k).len : Int) ≤ 2000 := by have := HLN.out; omega
        have t1 : decide ((f k).tag < 1) = false := by simp; omega
        have t2 : decide ((255 : Int) < (f k).tag) = false := by simp; omega
        have t3 : decide ((2000 : Int) < ((f k).len : Int)) = false := by simp; omega
        have hle : (encL (xs.take k)).length ≤ 2003 * 200 := by
          have := encL_le (xs.take k) (by
            intro x hx
            obtain ⟨j, hj, rfl⟩ := List.getElem_of_mem hx
            have hjk : j < k := by rw [List.length_take] at hj; omega
            have h2 := hfx.out j (by omega)
            rw [List.getElem_take]
            obtain ⟨h3, h4⟩ := List.getElem?_eq_some_iff.1 h2
            rw [h4]; exact HK.out j hjk)
          rw [List.length_take] at this
          omega
        have hs := hB.size
        have HR : Hid ((f k).right = true) := hr
        clear hr
        go_wp2_with (first
          | (at_builtin; refine wpList_append_bts _ rfl (.tmp 40) (.tmp 53) rfl w.heap.size (wr.heap.size + 1) _ _ _ (encL (xs.take k)) [(f k).tag, ((f k).len : Int) / 256, ((f k).len : Int) % 256] rfl rfl (hrow.alloc _) (bts_lit3 wr _ _ _ (by omega) (by omega) (by omega)) (by show _ + 3 ≤ _; omega) (by simp; omega) ?_; intro v1 w1 hr1 hg1; have hBw : Below w.heap.size w w1 := (hB.alloc hs _).grown hg1 (by simp; omega) (fun k e => (hrow.lt k e).1); have hs1 := hBw.size; have d3 := (hBw.cell (p := ⟨bb, off + k * 2 + 1, none⟩) lb).trans c2; replace hr1 : w1.ownsRow w.heap.size 5 1 v1 ((encL (xs.take k)).length + 3) ((encL (xs.take k) ++ [(f k).tag, ((f k).len : Int) / 256, ((f k).len : Int) % 256]).map (Value.int .u8)) := hr1)
          | (at_builtin; go_must (refine wpList_append_bts _ rfl (.tmp 55) (.tmp 60) rfl w.heap.size w.heap.size _ _ _ _ (f k).zs rfl rfl hr1 (hok.1.below hBw) (by have := HLN.out; omega) hs1 ?_); intro v2 w2 hr2 hg2))
        go_goals
        have hE : encL (xs.take (k + 1)) = encL (xs.take k) ++ [(f k).tag, ((f k).len : Int) / 256, ((f k).len : Int) % 256] ++ (f k).zs := by
          have hx := hfx.out k hlt
          obtain ⟨h3, h4⟩ := List.getElem?_eq_some_iff.1 hx
          rw [← List.take_append_getElem h3, encL_snoc, h4, HLN.out, List.append_assoc]
        go_roundw
        case rel =>
          refine ⟨k + 1, by omega, by go_num, ?_, fun j hj => ?_, hBw.grown hg2 hs1 (fun k e => (hr1.lt k e).1)⟩
          · rw [hE]
            rw [show (encL (xs.take k) ++ [(f k).tag, ((f k).len : Int) / 256, ((f k).len : Int) % 256] ++ (f k).zs).length = (encL (xs.take k)).length + 3 + (f k).zs.length from by rw [List.length_append, List.length_append]; rfl]
            exact hr2
          · rcases Nat.lt_or_ge j k with h | h
            · exact HK.out j h
            · obtain rfl : j = k := by omega
              exact HR.out
        case measure => simp [intOf]; omega
      · have hn : ¬ (1 ≤ (f k).tag ∧ (f k).tag ≤ 255 ∧ ((f k).len : Int) ≤ 2000) := by
          intro h
          have := HLN.out
          apply hr
          simp only [Fd.right, rightB]
          simp
          omega
        have HR : Hid ((f k).right = false) := Bool.eq_false_iff.2 hr
        clear hr
        by_cases h1 : (f k).tag < 1
        · have t1 : decide ((f k).tag < 1) = true := by simpa using h1
          clear hn h1
          go_wp2
          go_ret2
          exact ⟨.inr ⟨rfl, k, hlt, HR.out⟩, hB⟩
        · have t1 : decide ((f k).tag < 1) = false := by simpa using h1
          by_cases h2 : (255 : Int) < (f k).tag
          · have t2 : decide ((255 : Int) < (f k).tag) = true := by simpa using h2
            clear hn h1 h2
            go_wp2
            go_ret2
            exact ⟨.inr ⟨rfl, k, hlt, HR.out⟩, hB⟩
          · have t2 : decide ((255 : Int) < (f k).tag) = false := by simpa using h2
            have t3 : decide ((2000 : Int) < ((f k).len : Int)) = true := by simp; omega
            clear hn h1 h2
            go_wp2
            go_ret2
            exact ⟨.inr ⟨rfl, k, hlt, HR.out⟩, hB⟩
    · obtain rfl : k = len := by omega
      go_wp2
      go_ret2
      exact ⟨.inl ⟨_, rfl, HK.out, hrow⟩, hB⟩
end Go.Proofs.YtmahpceokpajgaaDoor.C
