/- What the frames' small functions answer: wal.frameSize, frame.record, frame.sum, frame.right. -/
import Derived.Test.YtgblekdllcngnaaFrm
import Derived.Test.YtgblekdllcngnaaParse
import Derived.Laws.CopyRow
namespace Go.Proofs.Ytgblekdllcngnaa
open Go.RowKit Go.IntWalk Crcm Plain
set_option linter.unusedVariables false

theorem sz5' (W : World) : (Go.sizeOf 5).run Try.prog W = .ok 1 W := by
  obtain ⟨i0, hi, hz0, hz1, hz2⟩ := info_parts Try.info5
  simp [sizeOf, typeInfo, hi, hz1]
/-- Which part of a slice. -/
def cutA (a : Option Addr) (cap lo : Nat) : Option Addr := if cap = lo then a else a.map (·.add lo)
theorem bts_cut {n₀ : Nat} {w : World} {a : Option Addr} {len cap : Nat} {zs : List Int} (hz : Bts n₀ w (.slice a len cap) zs) (lo hi : Nat) (hlo : lo ≤ hi) (hhi : hi ≤ len) :
    Bts n₀ w (.slice (cutA a cap lo) (hi - lo) (cap - lo)) ((zs.take hi).drop lo) := by
  have hl := hz.len
  refine ⟨?_, fun z hz' => hz.2 z (List.mem_of_mem_take (List.mem_of_mem_drop hz'))⟩
  have hln : ((zs.take hi).drop lo).length = hi - lo := by rw [List.length_drop, List.length_take]; omega
  by_cases h0 : hi = lo
  · have e0 : (zs.take hi).drop lo = [] := List.eq_nil_of_length_eq_zero (by omega)
    rw [e0, show hi - lo = 0 by omega]
    refine .inl ⟨?_, rfl⟩
    cases h : cutA a cap lo with
    | none =>
      have : a = none := by unfold cutA at h; split at h; · exact h
                            · simpa using h
      subst this
      obtain ⟨⟨e | ⟨ad, c, e⟩, h⟩ | ⟨b', off', c, e, _⟩, _⟩ := hz
      · simp at e; left; rw [e.2, Nat.zero_sub]
      · simp at e
      · simp at e
    | some ad => exact .inr ⟨ad, _, rfl⟩
  · obtain ⟨⟨e | ⟨ad, c, e⟩, h⟩ | ⟨b', off', c, e, hb, h1, h2, hc⟩, _⟩ := hz
    · simp at e; omega
    · simp at e; omega
    · simp only [Value.slice.injEq] at e
      obtain ⟨rfl, e2, rfl⟩ := e
      have hne : ¬ cap = lo := by omega
      refine .inr ⟨b', off' + lo, cap - lo, ?_, hb, by rw [hln]; omega, by omega, fun j hj => ?_⟩
      · rw [hln]; unfold cutA; rw [if_neg hne]
        simp [Addr.add]
      · rw [hln] at hj
        have := hc (lo + j) (by omega)
        rw [← Nat.add_assoc] at this
        rw [this, List.getElem?_drop, List.getElem?_take, if_pos (by omega)]
theorem bts_cap {n₀ : Nat} {w : World} {a : Option Addr} {len cap : Nat} {zs : List Int} (hz : Bts n₀ w (.slice a len cap) zs) : len ≤ cap ∨ (len = 0) := by
  obtain ⟨⟨e | ⟨ad, c, e⟩, h⟩ | ⟨b', off', c, e, _, h1, h2, _⟩, _⟩ := hz
  · simp at e; omega
  · simp at e; omega
  · simp at e; omega
theorem run_lh (t : TypeId) (ht : Try.prog.underlying t = some (.slice 5)) (W : World) (a : Option Addr) (len cap : Nat) (lo hi : Int) (h0 : 0 ≤ lo) (h1 : lo ≤ hi) (h2 : hi ≤ cap) :
    (Instr.slice t (.slice a len cap) (some (.int .i64 lo)) (some (.int .i64 hi)) none).run Try.prog W = .ok (.slice (cutA a cap lo.toNat) (hi.toNat - lo.toNat) (cap - lo.toNat)) W := by
  have he : Try.prog.elem t = 5 := by simp [Program.elem, ht]
  have ht' : Try.prog.underlying t = some (.slice (Try.prog.elem t)) := by rw [he]; exact ht
  rw [run_slice_lh W t _ _ _ ht' .i64 .i64 _ _ (by omega) (by omega) (by omega), he, sz5']
  simp only [Result.andThen, sliced, Nat.mul_one, cutA]
theorem run_l (t : TypeId) (ht : Try.prog.underlying t = some (.slice 5)) (W : World) (a : Option Addr) (len cap : Nat) (lo : Int) (h0 : 0 ≤ lo) (h1 : lo ≤ len) (hc : len ≤ cap):
    (Instr.slice t (.slice a len cap) (some (.int .i64 lo)) none none).run Try.prog W = .ok (.slice (cutA a cap lo.toNat) (len - lo.toNat) (cap - lo.toNat)) W := by
  have he : Try.prog.elem t = 5 := by simp [Program.elem, ht]
  have ht' : Try.prog.underlying t = some (.slice (Try.prog.elem t)) := by rw [he]; exact ht
  rw [run_slice_l W t _ _ _ ht' .i64 _ (by omega) (by omega), he, sz5']
  simp only [Result.andThen, sliced, Nat.mul_one, cutA]
theorem run_h (t : TypeId) (ht : Try.prog.underlying t = some (.slice 5)) (W : World) (a : Option Addr) (len cap : Nat) (hi : Int) (h0 : 0 ≤ hi) (h1 : hi ≤ cap) :
    (Instr.slice t (.slice a len cap) none (some (.int .i64 hi)) none).run Try.prog W = .ok (.slice (cutA a cap 0) hi.toNat cap) W := by
  have he : Try.prog.elem t = 5 := by simp [Program.elem, ht]
  have ht' : Try.prog.underlying t = some (.slice (Try.prog.elem t)) := by rw [he]; exact ht
  rw [run_slice_h W t _ _ _ ht' .i64 _ (by omega) (by omega), he, sz5']
  simp only [Result.andThen, sliced, Nat.mul_one, cutA, Nat.sub_zero]
theorem take_drop_all {α : Type} (l : List α) (k : Nat) : (l.take l.length).drop k = l.drop k := by rw [List.take_length]

set_option maxRecDepth 100000 in
set_option maxHeartbeats 1000000 in
/-- frame.record. -/
theorem record_any (a : Option Addr) (len cap : Nat) (hl : (6 : Int) ≤ len) (hc : len ≤ cap) (w : World) :
    Calls Try.prog 44 #[.slice a len cap] w fun e w' => e = .returned (.slice (cutA a cap 6) (len - 6) (cap - 6)) ∧ w = w' := by
  have hr := fun W => run_l 58 Try.underlying58 W a len cap 6 (by omega) hl hc
  go_enter Try.func44, Try.ntmps44
  go_wp2
  go_ret
  exact ⟨rfl, rfl⟩
set_option maxRecDepth 100000 in
set_option maxHeartbeats 1000000 in
/-- frame.sum. -/
theorem fsum_any (a : Option Addr) (len cap : Nat) (f : List Int) (w : World) (h : Bts w.heap.size w (.slice a len cap) f) (hl : 6 ≤ f.length) :
    Calls Try.prog 51 #[.slice a len cap] w fun e w' => ∃ d, e = .returned (.int .u32 d) ∧ Hid (d = U (fsum f)) ∧ Below w.heap.size w w' := by
  have hlen := h.len
  have hcap := bts_cap h
  have hr := fun W => run_h 58 Try.underlying58 W a len cap 2 (by omega) (by omega)
  have b1 := bts_cut h 0 2 (by omega) (by omega)
  rw [List.drop_zero] at b1
  have b2 := bts_cut h 6 len (by omega) (Nat.le_refl _)
  rw [hlen, take_drop_all] at b2
  have HL : Hid (len = f.length) := hlen
  rw [← hlen] at b2
  clear hlen
  go_enter Try.func51, Try.ntmps51
  go_wp2_with fail
  refine (sum_any _ _ w b1).mono ?_
  rintro e w1 ⟨d1, rfl, hd1, hB1⟩
  go_wp2_with fail
  refine (record_any a len cap (by have := HL.out; omega) (by have := HL.out; omega) w1).mono ?_
  rintro e w2 ⟨rfl, rfl⟩
  go_wp2_with fail
  refine (more_any d1 _ hd1 _ _ w1 (b2.below hB1 |>.mono hB1.size)).mono ?_
  rintro e w2 ⟨d2, rfl, hd2, hB2⟩
  go_wp2
  go_ret
  exact ⟨d2, rfl, hd2, hB1.trans (hB2.mono hB1.size)⟩
end Go.Proofs.Ytgblekdllcngnaa
