/- Bytes that a call makes itself, and the first of bytes that can be read. -/
import Derived.Test.YtdokhiikglcpcaaRefs
namespace Go.Proofs.Ytdokhiikglcpcaa
open Go.RowKit Go.IntWalk Crcm
set_option linter.unusedVariables false

/-- The first k of bytes that can be read. -/
theorem bts_take {n₀ : Nat} {W : World} {a : Option Addr} {len cap : Nat} {zs : List Int} (h : Bts n₀ W (.slice a len cap) zs) (k : Nat) (hk : k ≤ zs.length) : Bts n₀ W (.slice a k cap) (zs.take k) := by
  obtain ⟨⟨e | ⟨ad, c, e⟩, rfl⟩ | ⟨b, off, c, e, hb, hl, hm, hc⟩, hz⟩ := h
  · obtain rfl : k = 0 := by simpa using hk
    simp only [Value.slice.injEq] at e
    obtain ⟨rfl, rfl, rfl⟩ := e
    exact ⟨.inl ⟨.inl rfl, rfl⟩, fun z hz => by simp at hz⟩
  · obtain rfl : k = 0 := by simpa using hk
    simp only [Value.slice.injEq] at e
    obtain ⟨rfl, rfl, rfl⟩ := e
    exact ⟨.inl ⟨.inr ⟨_, _, rfl⟩, rfl⟩, fun z hz => by simp at hz⟩
  · simp only [Value.slice.injEq] at e
    obtain ⟨rfl, rfl, rfl⟩ := e
    have hl' : (zs.take k).length = k := by rw [List.length_take]; omega
    refine ⟨.inr ⟨b, off, cap, by rw [hl'], hb, by omega, hm, fun j hj => ?_⟩, fun z hz' => hz z (List.mem_of_mem_take hz')⟩
    rw [hl'] at hj
    rw [hc j (by omega), List.getElem?_take, if_pos hj]
/-- What a row of the call's own is. -/
theorem own_some {W : World} {base k : Nat} {v : Value} {xs : List Value} (h : W.ownsRow base 5 1 v k xs) (hk : 0 < k) : ∃ g cap, v = .slice (some ⟨g, 0, none⟩) k cap ∧ k ≤ cap ∧ base ≤ g ∧ cap ≤ maxLen := by
  rcases h.2 with ⟨rfl, h0⟩ | ⟨g, cap, cur, rfl, hb, hg, hn, hm, hs, ht⟩
  · omega
  · exact ⟨g, cap, rfl, by omega, hb, hm⟩
theorem lit_none (W : World) (base : Nat) (hb : base ≤ W.heap.size) : (W.alloc (.cells #[] 5)).ownsRow base 5 1 (.slice (some ⟨W.heap.size, 0, none⟩) 0 0) 0 (([] : List Int).map (Value.int .u8)) :=
  World.ownsRow_lit W #[] 0 hb (by unfold maxLen; omega) rfl
theorem lit_bts (W : World) (d : Int) (h : 0 ≤ d ∧ d < 256) : Bts (W.alloc (.cells #[.int .u8 d] 5)).heap.size (W.alloc (.cells #[.int .u8 d] 5)) (.slice (some ⟨W.heap.size, 0, none⟩) 1 1) [d] :=
  lit_cells W [d] (0, 0) (by unfold maxLen; simp) (by intro z hz; simp at hz; subst hz; exact h)
/-- 'b[:k]'. -/
theorem run_cut {n₀ : Nat} {W : World} {a : Option Addr} {len cap : Nat} {zs : List Int} (h : Bts n₀ W (.slice a len cap) zs) (k : Int) (h0 : 0 ≤ k) (hk : k ≤ (zs.length : Int)) :
    ∃ a', (∀ m W', (Instr.slice 22 (.slice a m cap) none (some (.int .i64 k)) none).run Try.prog W' = .ok (.slice a' k.toNat cap) W') ∧ Bts n₀ W (.slice a' k.toNat cap) (zs.take k.toNat) := by
  have ht' : Try.prog.underlying 22 = some (.slice (Try.prog.elem 22)) := by simp [Program.elem, Try.underlying22]
  have he : Try.prog.elem 22 = 5 := by simp [Program.elem, Try.underlying22]
  have hzs : ∀ W, (Go.sizeOf 5).run Try.prog W = .ok 1 W := by
    obtain ⟨i0, hi, hz0, hz1, hz2⟩ := info_parts Try.info5
    intro W; simp [sizeOf, typeInfo, hi, hz1]
  have hcap : zs.length ≤ cap := by
    obtain ⟨⟨e | ⟨ad, c, e⟩, rfl⟩ | ⟨b, off, c, e, hb, hl, hm, hc⟩, hz⟩ := h
    · simp
    · simp
    · simp only [Value.slice.injEq] at e
      obtain ⟨_, _, rfl⟩ := e
      exact hl
  have hrun : ∀ m W', (Instr.slice 22 (.slice a m cap) none (some (.int .i64 k)) none).run Try.prog W' = .ok (.slice (if cap = 0 then a else a.map (·.add (0 * 1))) k.toNat cap) W' := by
    intro m W'
    rw [run_slice_h W' 22 _ _ _ ht' .i64 _ h0 (by omega), he, hzs]
    simp [Result.andThen, sliced]
  refine ⟨_, hrun, ?_⟩
  obtain ⟨⟨e | ⟨ad, c, e⟩, rfl⟩ | ⟨b, off, c, e, hb, hl, hm, hc⟩, hz⟩ := id h
  · simp only [Value.slice.injEq] at e
    obtain ⟨rfl, rfl, rfl⟩ := e
    have hk0 : k.toNat = 0 := by simp at hk; omega
    rw [hk0]
    exact ⟨.inl ⟨.inl (by simp), rfl⟩, fun z hz => by simp at hz⟩
  · simp only [Value.slice.injEq] at e
    obtain ⟨rfl, rfl, rfl⟩ := e
    have hk0 : k.toNat = 0 := by simp at hk; omega
    rw [hk0]
    refine ⟨.inl ⟨.inr ?_, rfl⟩, fun z hz => by simp at hz⟩
    split
    · exact ⟨_, _, rfl⟩
    · exact ⟨_, _, rfl⟩
  · have h2 := bts_take h k.toNat (by omega)
    simp only [Value.slice.injEq] at e
    obtain ⟨rfl, rfl, rfl⟩ := e
    have ea : (if cap = 0 then some (⟨b, off, none⟩ : Addr) else (some (⟨b, off, none⟩ : Addr)).map (·.add (0 * 1))) = some ⟨b, off, none⟩ := by
      split
      · rfl
      · simp [Addr.add]
    rw [ea]
    exact h2
end Go.Proofs.Ytdokhiikglcpcaa
