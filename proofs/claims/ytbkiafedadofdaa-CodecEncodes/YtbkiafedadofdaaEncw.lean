/- The walk of the law CodecEncodes, by what the four calls answer. -/
import Derived.Test.YtbkiafedadofdaaBackw
import Derived.Test.YtbkiafedadofdaaRefe
namespace Go.Proofs.Ytbkiafedadofdaa
open Go.RowKit Go.Shelf Plain Go.IntWalk
set_option linter.unusedVariables false

/-- belfryref01.Encode, at whatever list of fields. -/
theorem refenc_any (v : Value) (xs : List Fd) (w : World) (hI : Flds w.heap.size w v xs) :
    Calls Try.prog 12 #[v] w fun e w' => ∃ u, e = .returned (.tuple #[u, .int .i64 (errR xs)]) ∧ w'.ownsRow w.heap.size 5 1 u (encR xs).length ((encR xs).map (Value.int .u8)) ∧ Below w.heap.size w w' := by
  obtain ⟨a, len, cap, rfl, hlen⟩ := hI.form
  by_cases hl : (200 : Int) < (len : Int)
  · refine (refenc_long a len cap hl w).mono ?_
    rintro e w' ⟨rfl, rfl⟩
    have ho : ¬ okL xs = true := by simp only [okL, Bool.and_eq_true, decide_eq_true_eq]; omega
    refine ⟨.slice none 0 0, by simp [errR, ho], ?_, Below.refl _ _⟩
    simp only [encR, ho]
    exact World.ownsRow_nil _ _ _ _
  · haveI : Inhabited Fd := ⟨⟨0, none, 0, 0, []⟩⟩
    have hx : ∀ j, j < len → xs[j]? = some (xs[j]?.getD default) := fun j hj => by rw [List.getElem?_eq_getElem (by omega)]; rfl
    refine (refenc_core a len cap (by simpa using hl) w xs (fun j => xs[j]?.getD default) hx hlen.symm hI.cells).mono ?_
    rintro e w' ⟨⟨u, rfl, hall, hrow⟩ | ⟨rfl, j, hj, hr⟩, hB⟩
    · have ho : okL xs = true := by
        simp only [okL, Bool.and_eq_true, decide_eq_true_eq, List.all_eq_true]
        refine ⟨by omega, fun x hx' => ?_⟩
        obtain ⟨j, hj, rfl⟩ := List.getElem_of_mem hx'
        have := hall j (by omega)
        simpa [List.getElem?_eq_getElem hj] using this
      refine ⟨u, by simp [errR, ho], ?_, hB⟩
      rw [hlen, List.take_length] at hrow
      simp only [encR, ho, if_true]
      exact hrow
    · have ho : ¬ okL xs = true := by
        intro h
        simp only [okL, Bool.and_eq_true, List.all_eq_true] at h
        have := h.2 _ (List.mem_of_getElem? (hx j hj))
        rw [this] at hr; cases hr
      refine ⟨.slice none 0 0, by simp [errR, ho], ?_, hB⟩
      simp only [encR, ho]
      exact World.ownsRow_nil _ _ _ _

/-- What belfryref01.Decode answers, at whatever bytes, at most 5000 of them. -/
def RefDecSaid : Prop := ∀ (v : Value) (zs : List Int) (w : World), zs.length ≤ 5000 → Bts w.heap.size w v zs →
  Calls Try.prog 14 #[v] w fun e W' => ((∃ u xs, e = .returned (.tuple #[u, .int .i64 0]) ∧ Flds W'.heap.size W' u xs ∧ zs = encL xs ∧ okL xs = true) ∨ (e = .returned (.tuple #[.slice none 0 0, .int .i64 12]) ∧ ∀ xs, okL xs = true → zs ≠ encL xs)) ∧ Below w.heap.size w W'

set_option maxRecDepth 100000 in
set_option maxHeartbeats 1000000 in
theorem encs_few (a d : Option Addr) (len cap dl dc : Nat) (xs : List Fd) (w : World) (hI : Flds w.heap.size w (.slice a len cap) xs) (hf : fewB xs = false ∨ (5000 : Int) < (dl : Int)) (hdl : dl ≤ 9223372036854775807) :
    Calls Try.prog 3 #[.slice a len cap, .slice d dl dc] w fun e w' => e = .returned (.bool true) ∧ Below w.heap.size w w' := by
  go_enter Try.func3, Try.ntmps3
  go_wp2_with fail
  refine (few_any _ xs _ hI).mono ?_
  rintro e w1 ⟨rfl, hw⟩
  subst hw
  cases h1 : fewB xs with
  | false =>
    clear hf
    go_wp2_with (go_at_call 10; refine (alive_any _).mono ?_; rintro e w6 ⟨rfl, hB6⟩)
    go_ret
    exact ⟨rfl, hB6⟩
  | true =>
    have hf' : (5000 : Int) < (dl : Int) := by rcases hf with h | h <;> simp_all
    clear hf
    go_wp2_with (go_at_call 10; refine (alive_any _).mono ?_; rintro e w6 ⟨rfl, hB6⟩)
    go_ret
    exact ⟨rfl, hB6⟩

theorem lit7 (W : World) : Bts (W.heap.size + 1) (W.alloc (.cells #[.int .u8 7] 5)) (.slice (some ⟨W.heap.size, 0, none⟩) 1 1) [7] := by
  refine ⟨.inr ⟨W.heap.size, 0, 1, rfl, by omega, by simp, by unfold maxLen; omega, fun j hj => ?_⟩, ?_⟩
  · have hh := heap_alloc_new W (.cells #[.int .u8 7] 5)
    simp only [World.cell?, hh, Nat.zero_add]
    match j, hj with
    | 0, _ => rfl
  · intro z hz
    simp at hz
    omega

theorem own_cut {w2 : World} {base g c k n : Nat} {zs : List Int} (h : w2.ownsRow base 5 1 (.slice (some ⟨g, 0, none⟩) n c) k (([] ++ zs ++ [7]).map (Value.int .u8))) (hb : ∀ z ∈ zs, 0 ≤ z ∧ z < 256) {dl : Nat} (HD : Hid (zs.length = dl)) :
    ∃ sa sc, (∀ m W, (Instr.slice 23 (.slice (some ⟨g, 0, none⟩) m c) none (some (.int .i64 (dl : Int))) none).run Try.prog W = .ok (.slice sa dl sc) W) ∧ Bts w2.heap.size w2 (.slice sa dl sc) zs := by
  have hB : Bts w2.heap.size w2 (.slice (some ⟨g, 0, none⟩) n c) ([] ++ zs ++ [7]) := Bts.of_own h (by intro z hz; simp at hz; rcases hz with h | rfl; exact hb z h; omega)
  have hl := hB.len
  have hn : n = dl + 1 := by simp at hl; have := HD.out; omega
  have hc : n ≤ c ∧ c ≤ maxLen ∧ g < w2.heap.size ∧ ∀ j, j < dl → w2.cell? ⟨g, 0 + j, none⟩ = some (.int .u8 (zs[j]?.getD 0)) := by
    obtain ⟨⟨e | ⟨ad, c', e⟩, h0⟩ | ⟨b', off', c', e, h0, h1, h2, h3⟩, _⟩ := hB
    · simp at e
    · simp at h0
    · simp only [Value.slice.injEq, Option.some.injEq, Addr.mk.injEq] at e
      obtain ⟨⟨rfl, rfl, _⟩, e2, rfl⟩ := e
      refine ⟨by omega, h2, h0, fun j hj => ?_⟩
      have h4 := h3 j (by simp; have := HD.out; omega)
      rw [h4, List.nil_append, List.getElem?_append_left (by have := HD.out; omega)]
  have ht' : Try.prog.underlying 23 = some (.slice (Try.prog.elem 23)) := by simp [Program.elem, Try.underlying23]
  have he : Try.prog.elem 23 = 5 := by simp [Program.elem, Try.underlying23]
  have hzs : ∀ W, (Go.sizeOf 5).run Try.prog W = .ok 1 W := by
    obtain ⟨i0, hi, hz0, hz1, hz2⟩ := info_parts Try.info5
    intro W; simp [sizeOf, typeInfo, hi, hz1]
  refine ⟨some ⟨g, 0, none⟩, c, fun m W => ?_, ?_⟩
  · rw [run_slice_h W 23 _ _ _ ht' .i64 _ (by omega) (by omega), he, hzs]
    simp [Result.andThen, sliced, Int.toNat_natCast, Addr.add]
  · have hdl := HD.out
    subst hdl
    exact ⟨.inr ⟨g, 0, c, rfl, hc.2.2.1, by omega, hc.2.1, hc.2.2.2⟩, hb⟩

set_option maxRecDepth 100000 in
set_option maxHeartbeats 4000000 in
theorem encs_core (hdec : DecSaid) (href : RefDecSaid) (a d : Option Addr) (len cap dl dc : Nat) (xs : List Fd) (zs : List Int) (w : World) (hI : Flds w.heap.size w (.slice a len cap) xs) (hZ : Bts w.heap.size w (.slice d dl dc) zs) (hf : fewB xs = true) (hd : decide ((5000 : Int) < (dl : Int)) = false) (hdl : dl ≤ 5000) (HD : Hid (zs.length = dl)) :
    Calls Try.prog 3 #[.slice a len cap, .slice d dl dc] w fun e w' => e = .returned (.bool true) ∧ Below w.heap.size w w' := by
  go_enter Try.func3, Try.ntmps3
  go_wp2_with fail
  refine (few_any _ xs _ hI).mono ?_
  rintro e w1 ⟨rfl, hw⟩
  subst hw
  rw [hf]
  go_wp2_with (first
    | (at_builtin; refine wpList_append_bts _ rfl (.tmp 26) (.tmp 27) rfl w.heap.size w.heap.size _ _ _ [] zs rfl rfl (lit_zero w _ (Nat.le_refl _)) (hZ.below ((Below.refl _ w).alloc (Nat.le_refl _) _)) (by have := HD.out; omega) (by simp) ?_; intro v1 w1 hr1 hg1; have hB1 : Below w.heap.size w w1 := ((Below.refl _ w).alloc (Nat.le_refl _) _).grown hg1 (by simp) (fun k e => by cases e; exact Nat.le_refl _); have hs1 := hB1.size)
    | (at_builtin; go_must (refine wpList_append_bts _ rfl (.tmp 28) (.tmp 29) rfl w.heap.size (w1.heap.size + 1) _ _ _ _ [7] rfl rfl (hr1.alloc _) (lit7 w1) (by have := HD.out; simp; omega) (by simp; omega) ?_); intro v2 w2 hr2 hg2; have hB2 : Below w.heap.size w w2 := (hB1.alloc hs1 _).grown hg2 (by simp; omega) (fun k e => (hr1.lt k e).1); obtain ⟨g2, c2, rfl⟩ := ownsRow_pos hr2 (by simp); obtain ⟨sa, sc, hsl, bo⟩ := own_cut hr2 hZ.2 HD))
  go_wp2_with fail
  refine (encode_any _ xs _ ((hI.below hB2).mono hB2.size)).mono ?_
  rintro e w3 ⟨x, rfl, hr3, hB3⟩
  have hB03 := hB2.trans (hB3.mono hB2.size)
  go_wp2_with fail
  refine (refenc_any _ xs _ ((hI.below hB03).mono hB03.size)).mono ?_
  rintro e w4 ⟨y, rfl, hr4, hB4⟩
  have hB04 := hB03.trans (hB4.mono hB03.size)
  have hB24 := hB3.trans (hB4.mono hB3.size)
  have bo4 := (bo.below hB24).mono hB24.size
  generalize errR xs = ex
  go_wp2_with fail
  refine (hdec _ zs _ bo4).mono ?_
  rintro e w5 ⟨h5, hB5⟩
  have hB05 := hB04.trans (hB5.mono hB04.size)
  have bx4 := ((Bts.of_own hr3 (encR_byte hI.2)).below hB4).mono hB4.size
  have by4 := Bts.of_own hr4 (encR_byte hI.2)
  clear hr1 hg1 hr2 hg2 hr3 hr4 hsl
  obtain ⟨A, HA⟩ : ∃ A, Hid (strOfNums (encR xs) = A) := ⟨_, rfl⟩
  obtain ⟨C, HC⟩ : ∃ C, Hid (strOfNums zs = C) := ⟨_, rfl⟩
  rcases h5 with ⟨z, us, rfl, hFz, hez, hoz⟩ | ⟨rfl, hno5⟩
  · go_wp2_with fail
    refine (href _ zs _ (by have := HD.out; omega) ((hZ.below hB05).mono hB05.size)).mono ?_
    rintro e w6 ⟨⟨t, vs, rfl, hFt, het, hot⟩ | ⟨rfl, hno6⟩, hB6⟩
    · have hsv : us.map said = vs.map said := encL_inj (hez.symm.trans het)
      have hB06 := hB05.trans (hB6.mono hB05.size)
      go_wp2_with fail
      refine (same_all _ _ us vs _ ((hFz.below hB6).mono hB6.size) hFt).mono ?_
      rintro e w7 ⟨rfl, hB7⟩
      rw [show decide (us.map said = vs.map said) = true from by simp only [hsv, decide_true]]
      clear hsv hFz hFt hez hoz het hot
      have hB07 := hB06.trans (hB7.mono hB06.size)
      have hB47 := hB5.trans ((hB6.trans (hB7.mono hB6.size)).mono hB5.size)
      go_wp2_with (go_at_call 10; go_must (refine (alive_any _).mono ?_); rintro e w8 ⟨rfl, hB8⟩; have hB48 := hB47.trans (hB8.mono hB47.size); have q1 := run_conv (bx4.below hB48); have q2 := run_conv (by4.below hB48); have q3 := run_conv (bo4.below hB48); have q4 := run_conv (hZ.below (hB07.trans (hB8.mono hB07.size))); rw [HA.out] at q1 q2; rw [HC.out] at q3 q4)
      go_ret
      exact ⟨rfl, hB07.trans (hB8.mono hB07.size)⟩
    · exact absurd hez (hno6 us hoz)
  · go_wp2_with fail
    refine (href _ zs _ (by have := HD.out; omega) ((hZ.below hB05).mono hB05.size)).mono ?_
    rintro e w6 ⟨⟨t, vs, rfl, hFt, het, hot⟩ | ⟨rfl, hno6⟩, hB6⟩
    · exact absurd het (hno5 vs hot)
    · have hB06 := hB05.trans (hB6.mono hB05.size)
      have hN : Flds w6.heap.size w6 (.slice none 0 0) [] := ⟨.inl ⟨.inl rfl, rfl⟩, fun x hx => by cases hx⟩
      clear hno5 hno6
      go_wp2_with fail
      refine (same_all _ _ [] [] _ hN hN).mono ?_
      rintro e w7 ⟨rfl, hB7⟩
      rw [show decide (List.map said [] = List.map said []) = true from rfl]
      have hB07 := hB06.trans (hB7.mono hB06.size)
      have hB47 := hB5.trans ((hB6.trans (hB7.mono hB6.size)).mono hB5.size)
      go_wp2_with (go_at_call 10; go_must (refine (alive_any _).mono ?_); rintro e w8 ⟨rfl, hB8⟩; have hB48 := hB47.trans (hB8.mono hB47.size); have q1 := run_conv (bx4.below hB48); have q2 := run_conv (by4.below hB48); have q3 := run_conv (bo4.below hB48); have q4 := run_conv (hZ.below (hB07.trans (hB8.mono hB07.size))); rw [HA.out] at q1 q2; rw [HC.out] at q3 q4)
      go_ret
      exact ⟨rfl, hB07.trans (hB8.mono hB07.size)⟩
end Go.Proofs.Ytbkiafedadofdaa
