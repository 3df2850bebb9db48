/- Slices of bytes cut short, and 'append' behind a limit. -/
import Derived.Test.YtgblekdllcngnaaMem
namespace Go.Proofs.Ytgblekdllcngnaa
open Go.RowKit Go.IntWalk Go.Maps
set_option linter.unusedVariables false

/-- The first k of bytes that can be read. -/
theorem bts_take {n₀ : Nat} {W : World} {a : Option Addr} {len cap : Nat} {zs : List Int} (h : Bts n₀ W (.slice a len cap) zs) (k : Nat) (hk : k ≤ zs.length) (cap' : Nat) (hc1 : k ≤ cap') (hc2 : cap' ≤ cap) : Bts n₀ W (.slice a k cap') (zs.take k) := by
  obtain ⟨⟨e | ⟨ad, c, e⟩, rfl⟩ | ⟨b, off, c, e, hb, hl, hm, hc⟩, hz⟩ := h
  · obtain rfl : k = 0 := by simpa using hk
    simp only [Value.slice.injEq] at e
    obtain ⟨rfl, rfl, rfl⟩ := e
    obtain rfl : cap' = 0 := by omega
    exact ⟨.inl ⟨.inl rfl, rfl⟩, fun z hz => by simp at hz⟩
  · obtain rfl : k = 0 := by simpa using hk
    simp only [Value.slice.injEq] at e
    obtain ⟨rfl, rfl, rfl⟩ := e
    exact ⟨.inl ⟨.inr ⟨_, _, rfl⟩, rfl⟩, fun z hz => by simp at hz⟩
  · simp only [Value.slice.injEq] at e
    obtain ⟨rfl, rfl, rfl⟩ := e
    have hl' : (zs.take k).length = k := by rw [List.length_take]; omega
    refine ⟨.inr ⟨b, off, cap', by rw [hl'], hb, by omega, by omega, fun j hj => ?_⟩, fun z hz' => hz z (List.mem_of_mem_take hz')⟩
    rw [hl'] at hj
    rw [hc j (by omega), List.getElem?_take, if_pos hj]
theorem sz5 (W : World) : (Go.sizeOf 5).run Try.prog W = .ok 1 W := by
  obtain ⟨i0, hi, hz0, hz1, hz2⟩ := info_parts Try.info5
  simp [sizeOf, typeInfo, hi, hz1]
theorem Bts.cap_le {n₀ : Nat} {W : World} {a : Option Addr} {len cap : Nat} {zs : List Int} (h : Bts n₀ W (.slice a len cap) zs) : zs.length ≤ cap := by
  obtain ⟨⟨e | ⟨ad, c, e⟩, rfl⟩ | ⟨b, off, c, e, hb, hl, hm, hc⟩, hz⟩ := h
  · simp
  · simp
  · simp only [Value.slice.injEq] at e
    obtain ⟨_, _, rfl⟩ := e
    exact hl
theorem addr_add0 (b off : Nat) : (⟨b, off, none⟩ : Addr).add (0 * 1) = ⟨b, off, none⟩ := by simp [Addr.add]
/-- A part of bytes lies where they lie. -/
theorem btx_part {N : Nat → Prop} {W : World} {a a' : Option Addr} {len cap k cap' : Nat} {zs : List Int} (h : Btx N W (.slice a len cap) zs) (hk : k ≤ zs.length) (hc1 : k ≤ cap') (hc2 : cap' ≤ cap) (ha : (a = none → a' = none) ∧ (∀ ad, a = some ad → ∃ ad', a' = some ad' ∧ (∀ b off, ad = ⟨b, off, none⟩ → ad' = ad))) :
    Btx N W (.slice a' k cap') (zs.take k) := by
  rcases Nat.eq_zero_or_pos k with rfl | hk0
  · refine ⟨?_, fun _ _ _ _ _ hne => absurd (by simp) hne⟩
    cases a with
    | none =>
      obtain rfl := ha.1 rfl
      obtain ⟨⟨e | ⟨ad, c, e⟩, rfl⟩ | ⟨b, off, c, e, hb, hl, hm, hc⟩, hz⟩ := h.1
      · simp only [Value.slice.injEq] at e
        obtain ⟨_, _, rfl⟩ := e
        obtain rfl : cap' = 0 := by omega
        exact ⟨.inl ⟨.inl rfl, rfl⟩, by simp⟩
      · simp at e
      · simp at e
    | some ad =>
      obtain ⟨ad', rfl, _⟩ := ha.2 ad rfl
      exact ⟨.inl ⟨.inr ⟨_, _, rfl⟩, by simp⟩, by simp⟩
  · have h1 := bts_take h.1 k hk cap' hc1 hc2
    obtain ⟨⟨e | ⟨ad, c, e⟩, rfl⟩ | ⟨b, off, c, e, hb, hl, hm, hc⟩, hz⟩ := id h.1
    · simp at hk; omega
    · simp at hk; omega
    · simp only [Value.slice.injEq] at e
      obtain ⟨rfl, rfl, rfl⟩ := e
      obtain ⟨ad', rfl, had⟩ := ha.2 _ rfl
      obtain rfl := had b off rfl
      refine ⟨h1, fun b' off' len' cap'' e' _ => ?_⟩
      simp only [Value.slice.injEq, Option.some.injEq] at e'
      exact h.2 b' off' zs.length cap (by rw [e'.1]) (by rintro rfl; simp at hk; omega)
theorem part_addr (a : Option Addr) (c : Prop) [Decidable c] : (a = none → (if c then a else a.map (·.add (0 * 1))) = none) ∧ (∀ ad, a = some ad → ∃ ad', (if c then a else a.map (·.add (0 * 1))) = some ad' ∧ (∀ b off, ad = ⟨b, off, none⟩ → ad' = ad)) := by
  refine ⟨fun h => by subst h; simp, fun ad h => ?_⟩
  subst h
  by_cases hc : c
  · exact ⟨ad, by simp [hc], fun _ _ _ => rfl⟩
  · exact ⟨ad.add (0 * 1), by simp [hc], fun b off e => by rw [e]; exact addr_add0 b off⟩
theorem under27 : Try.prog.underlying 32 = some (.slice (Try.prog.elem 32)) := by simp [Program.elem, Try.underlying32]
theorem elem27 : Try.prog.elem 32 = 5 := by simp [Program.elem, Try.underlying32]
/-- 'b[:k]'. -/
theorem run_cut {N : Nat → Prop} {W : World} {a : Option Addr} {len cap : Nat} {zs : List Int} (h : Btx N W (.slice a len cap) zs) (k : Int) (h0 : 0 ≤ k) (hk : k ≤ (zs.length : Int)) :
    ∃ a', (∀ m W', (Instr.slice 32 (.slice a m cap) none (some (.int .i64 k)) none).run Try.prog W' = .ok (.slice a' k.toNat cap) W') ∧ Btx N W (.slice a' k.toNat cap) (zs.take k.toNat) := by
  have hcap := h.1.cap_le
  refine ⟨if cap = 0 then a else a.map (·.add (0 * 1)), fun m W' => ?_, btx_part h (by omega) (by omega) (Nat.le_refl _) (part_addr a _)⟩
  rw [run_slice_h W' 32 _ _ _ under27 .i64 _ h0 (by omega), elem27, sz5]
  simp [Result.andThen, sliced]
/-- 'b[:len(b):len(b)]'. -/
theorem run_lim {N : Nat → Prop} {W : World} {a : Option Addr} {cap : Nat} {zs : List Int} (h : Btx N W (.slice a zs.length cap) zs) :
    ∃ a', (∀ W', (Instr.slice 32 (.slice a zs.length cap) none (some (.int .i64 zs.length)) (some (.int .i64 zs.length))).run Try.prog W' = .ok (.slice a' zs.length zs.length) W') ∧ Btx N W (.slice a' zs.length zs.length) zs := by
  have hcap := h.1.cap_le
  refine ⟨if zs.length = 0 then a else a.map (·.add (0 * 1)), fun W' => ?_, by simpa using btx_part h (Nat.le_refl _) (Nat.le_refl _) hcap (part_addr a (zs.length = 0))⟩
  rw [run_slice_hm W' 32 _ _ _ under27 .i64 .i64 _ _ (by omega) (by omega) (by omega), elem27, sz5]
  simp [Result.andThen, sliced]
/-- 'append(b[:len(b):len(b)], xs...)'. -/
theorem run_append_lim (w : World) (ty : Nat) {N : Nat → Prop} {a : Option Addr} {zs : List Int} (h : Btx N w (.slice a zs.length zs.length) zs) {sv : Value} {xs : List Int} (hx : Bts w.heap.size w sv xs) (hl : zs.length + xs.length ≤ 100000) :
    ∃ a' cap' w', (Builtin.append_ #[32, 32] ty #[.slice a zs.length zs.length, sv]).run Try.prog w = .ok (.slice a' (zs ++ xs).length cap') w' ∧ Btx (Or_ N w) w' (.slice a' (zs ++ xs).length cap') (zs ++ xs) ∧ w.grownBy w' none := by
  obtain ⟨i0, hi, hz0, hz1, hz2⟩ := info_parts Try.info5
  have hz := hx.2
  have hzz : ∀ z ∈ zs ++ xs, 0 ≤ z ∧ z < 256 := fun z hz' => (List.mem_append.1 hz').elim (h.1.2 z) (hz z)
  cases a with
  | none =>
    have e0 : zs = [] := by
      obtain ⟨⟨e | ⟨ad, c, e⟩, rfl⟩ | ⟨b, off, c, e, hb, hl, hm, hc⟩, hz⟩ := h.1
      · rfl
      · rfl
      · simp at e
    subst e0
    obtain ⟨v', w', hrun, hown, hg⟩ := run_append_bts w w.heap.size w.heap.size ty (.slice none 0 0) sv 0 [] xs ⟨rfl, .inl ⟨rfl, rfl⟩⟩ hx (by omega) (Nat.le_refl _)
    have hb := Btx.of_own hown (by simpa using hzz)
    obtain ⟨a', cap', rfl⟩ := hb.1.shape
    exact ⟨a', cap', w', hrun, hb.mono fun k hk => .inr hk, hg⟩
  | some ad =>
    by_cases hx0 : xs = []
    · subst hx0
      have hlc : ∀ ad, (loadCells ad 0).run Try.prog w = .ok #[] w := fun ad => run_loadCells_list (P := Try.prog) w ad [] (fun j v hj => by simp at hj)
      have hrun : (Builtin.append_ #[32, 32] ty #[.slice (some ad) zs.length zs.length, sv]).run Try.prog w = .ok (.slice (some ad) zs.length zs.length) w := by
        obtain ⟨⟨rfl | ⟨ad', c, rfl⟩, _⟩ | ⟨b, off, c, rfl, hb, hl, hm, hc⟩, _⟩ := hx
        · simp [Builtin.append_, run_underlying Try.underlying32, sizeOf, typeInfo, hi, Builtin.lenOf, Builtin.firstCells, storeCells]
        · simp [Builtin.append_, run_underlying Try.underlying32, sizeOf, typeInfo, hi, Builtin.lenOf, Builtin.firstCells, storeCells, hlc]
        · simp [Builtin.append_, run_underlying Try.underlying32, sizeOf, typeInfo, hi, Builtin.lenOf, Builtin.firstCells, storeCells, hlc]
      refine ⟨some ad, zs.length, w, ?_, ?_, grown_refl w⟩
      · simpa using hrun
      · simpa using h.mono fun k hk => .inl hk
    · obtain ⟨⟨rfl | ⟨ad', c, rfl⟩, rfl⟩ | ⟨b, off, c, rfl, hb, hl', hm, hc⟩, _⟩ := hx
      · exact absurd rfl hx0
      · exact absurd rfl hx0
      have hpos : 0 < xs.length := List.length_pos_iff.2 hx0
      have cells : ∀ {b off : Nat} {ys : List Int}, (∀ j, j < ys.length → w.cell? ⟨b, off + j, none⟩ = some (.int .u8 (ys[j]?.getD 0))) → ∀ j u, (ys.map (Value.int .u8))[j]? = some u → w.cell? ((⟨b, off, none⟩ : Addr).add j) = some u := by
        intro b off ys hc j u hj
        have hadd : (⟨b, off, none⟩ : Addr).add j = ⟨b, off + j, none⟩ := by unfold Addr.add; split <;> simp_all
        have hjl : j < ys.length := by
          rcases Nat.lt_or_ge j ys.length with h | h
          · exact h
          · rw [List.getElem?_map, List.getElem?_eq_none h] at hj; cases hj
        rw [hadd, hc j hjl, List.getElem?_eq_getElem hjl]
        rw [List.getElem?_map, List.getElem?_eq_getElem hjl] at hj
        exact hj
      have holds : ∀ j u, (zs.map (Value.int .u8))[j]? = some u → w.cell? (ad.add j) = some u := by
        obtain ⟨⟨e | ⟨ad', c', e⟩, rfl⟩ | ⟨b', off', c', e, hb', hl', hm', hc'⟩, _⟩ := h.1
        · intro j u hj; simp at hj
        · intro j u hj; simp at hj
        · simp only [Value.slice.injEq, Option.some.injEq] at e
          rw [e.1]
          exact cells hc'
      obtain ⟨v', w', hrun, hown, hg⟩ := run_append_arg_grows (P := Try.prog) w 32 ty 5 i0 (.int .u8 0) 1 1 Try.underlying32 hi hz0 hz1 hz2 rfl (by decide) ad zs.length zs.length (zs.map (Value.int .u8)) (by simp) holds ⟨b, off, none⟩ xs.length c (xs.map (Value.int .u8)) (by simp) (cells hc) (by omega) (by unfold maxLen; omega) (by omega)
      rw [← List.map_append] at hown
      have hb2 := Btx.of_own hown hzz
      obtain ⟨a', cap', rfl⟩ := hb2.1.shape
      exact ⟨a', cap', w', hrun, hb2.mono fun k hk => .inr hk, hg⟩
end Go.Proofs.Ytgblekdllcngnaa
