/- The walk of the law CodecSizes. -/
import Derived.Test.YtbkiafedadofdaaLists
import Derived.Test.YtbkiafedadofdaaLater
namespace Go.Proofs.Ytbkiafedadofdaa
open Go.RowKit Go.Shelf Plain Go.IntWalk
set_option linter.unusedVariables false

theorem Flds.len {n₀ : Nat} {A : World} {a : Option Addr} {l c : Nat} {xs : List Fd} (k : Flds n₀ A (.slice a l c) xs) : l = xs.length := by
  obtain ⟨⟨e | ⟨ad, cap, e⟩, h⟩ | ⟨b, off, cap, e, _⟩, _⟩ := k
  · simp at e; simp [h, e]
  · simp at e; simp [h, e]
  · simp at e; exact e.2.1
theorem Flds.len_le {n₀ : Nat} {A : World} {a : Option Addr} {l c : Nat} {xs : List Fd} (k : Flds n₀ A (.slice a l c) xs) : l ≤ 9223372036854775807 := by
  obtain ⟨⟨e | ⟨ad, cap, e⟩, h⟩ | ⟨b, off, cap, e, _, h1, h2, _⟩, _⟩ := k
  · simp at e; omega
  · simp at e; omega
  · simp at e; unfold maxLen at h2; omega
theorem Bts.len_le {n₀ : Nat} {A : World} {a : Option Addr} {l c : Nat} {zs : List Int} (k : Bts n₀ A (.slice a l c) zs) : l ≤ 9223372036854775807 := by
  obtain ⟨⟨e | ⟨ad, cap, e⟩, h⟩ | ⟨b, off, cap, e, _, h1, h2, _⟩, _⟩ := k
  · simp at e; omega
  · simp at e; omega
  · simp at e; unfold maxLen at h2; omega

set_option maxRecDepth 100000 in
set_option maxHeartbeats 1000000 in
/-- what is not asked about -/
theorem sizes_few (a da : Option Addr) (len cap dl dc : Nat) (at_ : Int) (xs : List Fd) (w : World) (hI : Flds w.heap.size w (.slice a len cap) xs) (hf : fewB xs = false) :
    Calls Try.prog 8 #[.slice a len cap, .int .i64 at_, .slice da dl dc] w fun e w' => e = .returned (.bool true) ∧ Below w.heap.size w w' := by
  go_enter Try.func8, Try.ntmps8
  go_wp2_with fail
  refine (few_any _ xs _ hI).mono ?_
  rintro e w1 ⟨rfl, hw⟩
  subst hw
  rw [hf]
  go_wp2_with (go_at_call 10; refine (alive_any _).mono ?_; rintro e w6 ⟨rfl, hB6⟩)
  go_ret
  exact ⟨rfl, hB6⟩
set_option maxRecDepth 100000 in
set_option maxHeartbeats 1000000 in
theorem sizes_none (a da : Option Addr) (cap dl dc : Nat) (at_ : Int) (xs : List Fd) (w : World) (hI : Flds w.heap.size w (.slice a 0 cap) xs) (hf : fewB xs = true) :
    Calls Try.prog 8 #[.slice a 0 cap, .int .i64 at_, .slice da dl dc] w fun e w' => e = .returned (.bool true) ∧ Below w.heap.size w w' := by
  go_enter Try.func8, Try.ntmps8
  go_wp2_with fail
  refine (few_any _ xs _ hI).mono ?_
  rintro e w1 ⟨rfl, hw⟩
  subst hw
  rw [hf]
  go_wp2_with (go_at_call 10; refine (alive_any _).mono ?_; rintro e w6 ⟨rfl, hB6⟩)
  go_ret
  exact ⟨rfl, hB6⟩
set_option maxRecDepth 100000 in
set_option maxHeartbeats 1000000 in
theorem sizes_long (a da : Option Addr) (len cap dl dc : Nat) (at_ : Int) (xs : List Fd) (w : World) (hI : Flds w.heap.size w (.slice a len cap) xs) (hf : fewB xs = true) (h0 : ((len : Int) == 0) = false) (hd : (5000 : Int) < (dl : Int)) :
    Calls Try.prog 8 #[.slice a len cap, .int .i64 at_, .slice da dl dc] w fun e w' => e = .returned (.bool true) ∧ Below w.heap.size w w' := by
  go_enter Try.func8, Try.ntmps8
  go_wp2_with fail
  refine (few_any _ xs _ hI).mono ?_
  rintro e w1 ⟨rfl, hw⟩
  subst hw
  rw [hf]
  go_wp2_with (go_at_call 10; refine (alive_any _).mono ?_; rintro e w6 ⟨rfl, hB6⟩)
  go_ret
  exact ⟨rfl, hB6⟩
set_option maxRecDepth 100000 in
set_option maxHeartbeats 1000000 in
theorem sizes_bad (a da : Option Addr) (len cap dl dc : Nat) (at_ : Int) (xs : List Fd) (w : World) (hI : Flds w.heap.size w (.slice a len cap) xs) (hf : fewB xs = true) (h0 : ((len : Int) == 0) = false) (hd : decide ((5000 : Int) < (dl : Int)) = false) (ho : okL xs = false) :
    Calls Try.prog 8 #[.slice a len cap, .int .i64 at_, .slice da dl dc] w fun e w' => e = .returned (.bool true) ∧ Below w.heap.size w w' := by
  go_enter Try.func8, Try.ntmps8
  go_wp2_with fail
  refine (few_any _ xs _ hI).mono ?_
  rintro e w1 ⟨rfl, hw⟩
  subst hw
  rw [hf]
  go_wp2_with fail
  refine (encode_any _ xs _ hI).mono ?_
  rintro e w1 ⟨u, rfl, hr, hB⟩
  rw [show errR xs = 11 from by simp [errR, ho]]
  go_wp2_with (go_at_call 10; refine (alive_any _).mono ?_; rintro e w6 ⟨rfl, hB6⟩)
  go_ret
  exact ⟨rfl, hB.trans (hB6.mono hB.size)⟩

/-- How long a list's bytes are. -/
def lenSum (f : Nat → Nat) : Nat → Nat
  | 0 => 0
  | k + 1 => lenSum f k + 3 + f k

theorem lenSum_le (f : Nat → Nat) (k : Nat) (h : ∀ j, j < k → f j ≤ 5000) : lenSum f k ≤ 5003 * k := by
  induction k with
  | zero => exact Nat.le_refl _
  | succ k ih =>
    have := ih (fun j hj => h j (by omega))
    have := h k (by omega)
    simp only [lenSum]; omega

theorem owns_norm {W : World} {base g n c : Nat} {xs : List Fd} {k : Nat} (h : W.ownsRow base 37 2 (.slice (some ⟨g, 0, none⟩) n c) k (cellsL ([] ++ xs))) (hk : k = n) : W.ownsRow base 37 2 (.slice (some ⟨g, 0, none⟩) n c) n (cellsL xs) := by subst hk; exact h

set_option maxRecDepth 100000 in
set_option maxHeartbeats 2000000 in
theorem sizes_core (b off len cap dl dc q : Nat) (da : Option Addr) (at_ : Int) (xs : List Fd) (ds : List Int) (w : World) (hI : Flds w.heap.size w (.slice (some ⟨b, off, none⟩) len cap) xs) (hD : Bts w.heap.size w (.slice da dl dc) ds)
    (hf : fewB xs = true) (h0 : ((len : Int) == 0) = false) (hd : decide ((5000 : Int) < (dl : Int)) = false) (ho : okL xs = true) (hat : -9223372036854775808 ≤ at_ ∧ at_ ≤ 9223372036854775807)
    (hq : q < len) (hsgn : (at_ < 0 ∧ -(at_ + 1).tmod ↑len = ↑q) ∨ (0 ≤ at_ ∧ at_ % ↑len = ↑q))
    (f : Nat → Fd) (hb : b < w.heap.size) (hl250 : len ≤ 250) (hf5 : ∀ j, j < len → (f j).len ≤ 5000) (hc : ∀ j, j < len → w.cell? ⟨b, off + j * 2 + 1, none⟩ = some (.slice (f j).a (f j).len (f j).cap)) (hL : 0 < (encR xs).length)
    (HX : Hid (xs.length = len)) (hsum : Hid (lenSum (fun j => (f j).len) len = (encR xs).length)) (HF : Hid (xs[q]? = some (f q))) (ys : List Fd) (HY : Hid (ys = xs.set q ⟨(f q).tag, da, dl, dc, ds⟩)) (hyo : okL ys = false) (hd2 : (2000 : Int) < (dl : Int)) :
    Calls Try.prog 8 #[.slice (some ⟨b, off, none⟩) len cap, .int .i64 at_, .slice da dl dc] w fun e w' => e = .returned (.bool true) ∧ Below w.heap.size w w' := by
  obtain ⟨hat1, hat2⟩ := hat
  have hl0 : 0 < len := by omega
  rcases hsgn with ⟨hneg, hqq⟩ | ⟨hpos, hqq⟩
  all_goals
    go_enter Try.func8, Try.ntmps8
    go_wp2_with fail
    refine (few_any _ xs _ hI).mono ?_
    rintro e w1 ⟨rfl, hw⟩
    subst hw
    rw [hf]
    go_wp2_with fail
    refine (encode_any _ xs _ hI).mono ?_
    rintro e w1 ⟨u, rfl, hr, hB⟩
    rw [show errR xs = 0 from by simp [errR, ho]]
    obtain ⟨g, cu, rfl⟩ := ownsRow_pos hr hL
    generalize hLL : (encR xs).length = L at *
    have HL : Hid ((encR xs).length = L) := hLL
    clear hLL
    go_wp2_with fail
    go_loop [10, 11] (fun n i => ∃ k : Nat, k ≤ len ∧ i = .int .i64 k ∧ n = .int .i64 (lenSum (fun j => (f j).len) k : Nat)) (fun _ i => len - (intOf i).toNat)
    case atStart => exact ⟨0, Nat.zero_le _, rfl, rfl⟩
    case round =>
      obtain ⟨k, hk, rfl, rfl⟩ := hrel
      have hle := lenSum_le (fun j => (f j).len) k (fun j hj => hf5 j (by omega))
      by_cases hlt : k < len
      · have hck := (hB.cell (p := ⟨b, off + k * 2 + 1, none⟩) hb).trans (hc k hlt)
        have h5 := hf5 k hlt
        go_wp2
        go_roundw
        case rel => exact ⟨k + 1, by omega, by go_num, by simp only [lenSum]; go_num⟩
        case measure => simp [intOf]; omega
      · obtain rfl : k = len := by omega
        have hsum' := hsum.out
        have hcq := hc q hq
        have hs1 := hB.size
        rw [hsum']
        go_wp2_with (at_builtin; go_must (refine wpList_append_flds _ rfl (.tmp 62) (.tmp 63) rfl w1.heap.size w.heap.size _ _ _ [] xs rfl rfl (lit0 w1 _ (Nat.le_refl _)) ((hI.below hB).below ((Below.refl _ w1).alloc hs1 _)) (by have := HX.out; omega) (by simp) ?_); intro v4 w4 hr4 hg4; obtain ⟨g4, c4, rfl⟩ := ownsRow_pos hr4 (by have := HX.out; omega); rw [Nat.zero_add, HX.out] at hr4 ⊢; replace hr4 := owns_norm hr4 rfl; have hcell4 := hr4.cellAt (q * 2 + 1) (by omega); rw [(cellsL_get xs q (f q) HF.out).2] at hcell4; have hfr4 := hr4.frozenAt (q * 2 + 1))
        have hr5 := (hr4.stored (q * 2 + 1) (.slice da dl dc)).1
        rw [cellsL_set xs q (f q) ⟨(f q).tag, da, dl, dc, ds⟩ HF.out rfl, ← HY.out] at hr5
        have hg4b := (hr4.lt g4 rfl).1
        have hB5 : Below w1.heap.size w1 (w4.setCell ⟨g4, q * 2 + 1, none⟩ (.slice da dl dc)) := (((Below.refl _ w1).alloc (Nat.le_refl _) _).grown hg4 (by simp) (fun k e => by cases e; exact Nat.le_refl _)).setCell (p := ⟨g4, q * 2 + 1, none⟩) hg4b _
        have hB05 := hB.trans (hB5.mono hs1)
        have hs5 := hB05.size
        have hok5 : ∀ y ∈ ys, y.ok (w4.setCell ⟨g4, q * 2 + 1, none⟩ (.slice da dl dc)).heap.size (w4.setCell ⟨g4, q * 2 + 1, none⟩ (.slice da dl dc)) := by
          intro y hy
          rw [HY.out] at hy
          rcases List.mem_or_eq_of_mem_set hy with h | h
          · exact ((hI.2 y h).below hB05).mono hs5
          · subst h
            exact ⟨(hD.below hB05).mono hs5, (hI.2 (f q) (List.mem_of_getElem? HF.out)).2⟩
        have hF5 := Flds.of_own hr5 hok5
        refine (encode_any _ ys _ hF5).mono ?_
        rintro e w6 ⟨u6, rfl, hr6, hB6⟩
        have hB06 := hB05.trans (hB6.mono hs5)
        rw [show errR ys = 11 from by simp [errR, hyo]]
        go_wp2_with (go_at_call 10; refine (alive_any _).mono ?_; rintro e w7 ⟨rfl, hB7⟩)
        go_ret
        exact ⟨rfl, hB06.trans (hB7.mono (Nat.le_trans hs5 hB6.size))⟩
set_option maxRecDepth 100000 in
set_option maxHeartbeats 2000000 in
theorem sizes_core2 (b off len cap dl dc q : Nat) (da : Option Addr) (at_ : Int) (xs : List Fd) (ds : List Int) (w : World) (hI : Flds w.heap.size w (.slice (some ⟨b, off, none⟩) len cap) xs) (hD : Bts w.heap.size w (.slice da dl dc) ds)
    (hf : fewB xs = true) (h0 : ((len : Int) == 0) = false) (hd : decide ((5000 : Int) < (dl : Int)) = false) (ho : okL xs = true) (hat : -9223372036854775808 ≤ at_ ∧ at_ ≤ 9223372036854775807)
    (hq : q < len) (hsgn : (at_ < 0 ∧ -(at_ + 1).tmod ↑len = ↑q) ∨ (0 ≤ at_ ∧ at_ % ↑len = ↑q))
    (f : Nat → Fd) (hb : b < w.heap.size) (hl250 : len ≤ 250) (hf5 : ∀ j, j < len → (f j).len ≤ 5000) (hc : ∀ j, j < len → w.cell? ⟨b, off + j * 2 + 1, none⟩ = some (.slice (f j).a (f j).len (f j).cap)) (hL : 0 < (encR xs).length)
    (HX : Hid (xs.length = len)) (hsum : Hid (lenSum (fun j => (f j).len) len = (encR xs).length)) (HF : Hid (xs[q]? = some (f q))) (ys : List Fd) (HY : Hid (ys = xs.set q ⟨(f q).tag, da, dl, dc, ds⟩)) (hyo : okL ys = true) (L2 : Nat) (HL2p : 0 < (encR ys).length) (HL2 : Hid ((encR ys).length = L2)) (hl2 : ((L2 : Int) == ((encR xs).length : Int) - ((f q).len : Int) + (dl : Int)) = true) (A C D E : ByteArray) (eq : Bool) (HA : Hid (strOfNums (encR xs) = A)) (HC : Hid (strOfNums (encR ys) = C)) (HDs : Hid (strOfNums ds = D)) (HE : Hid (strOfNums (f q).zs = E)) (heq1 : (A.toList == C.toList) = eq) (heq2 : (D.toList == E.toList) = eq) :
    Calls Try.prog 8 #[.slice (some ⟨b, off, none⟩) len cap, .int .i64 at_, .slice da dl dc] w fun e w' => e = .returned (.bool true) ∧ Below w.heap.size w w' := by
  obtain ⟨hat1, hat2⟩ := hat
  have hl0 : 0 < len := by omega
  rcases hsgn with ⟨hneg, hqq⟩ | ⟨hpos, hqq⟩
  all_goals
    go_enter Try.func8, Try.ntmps8
    go_wp2_with fail
    refine (few_any _ xs _ hI).mono ?_
    rintro e w1 ⟨rfl, hw⟩
    subst hw
    rw [hf]
    go_wp2_with fail
    refine (encode_any _ xs _ hI).mono ?_
    rintro e w1 ⟨u, rfl, hr, hB⟩
    rw [show errR xs = 0 from by simp [errR, ho]]
    obtain ⟨g, cu, rfl⟩ := ownsRow_pos hr hL
    generalize hLL : (encR xs).length = L at *
    have HL : Hid ((encR xs).length = L) := hLL
    clear hLL
    go_wp2_with fail
    go_loop [10, 11] (fun n i => ∃ k : Nat, k ≤ len ∧ i = .int .i64 k ∧ n = .int .i64 (lenSum (fun j => (f j).len) k : Nat)) (fun _ i => len - (intOf i).toNat)
    case atStart => exact ⟨0, Nat.zero_le _, rfl, rfl⟩
    case round =>
      obtain ⟨k, hk, rfl, rfl⟩ := hrel
      have hle := lenSum_le (fun j => (f j).len) k (fun j hj => hf5 j (by omega))
      by_cases hlt : k < len
      · have hck := (hB.cell (p := ⟨b, off + k * 2 + 1, none⟩) hb).trans (hc k hlt)
        have h5 := hf5 k hlt
        go_wp2
        go_roundw
        case rel => exact ⟨k + 1, by omega, by go_num, by simp only [lenSum]; go_num⟩
        case measure => simp [intOf]; omega
      · obtain rfl : k = len := by omega
        have hsum' := hsum.out
        have hcq := hc q hq
        have hs1 := hB.size
        rw [hsum']
        go_wp2_with (at_builtin; go_must (refine wpList_append_flds _ rfl (.tmp 62) (.tmp 63) rfl w1.heap.size w.heap.size _ _ _ [] xs rfl rfl (lit0 w1 _ (Nat.le_refl _)) ((hI.below hB).below ((Below.refl _ w1).alloc hs1 _)) (by have := HX.out; omega) (by simp) ?_); intro v4 w4 hr4 hg4; obtain ⟨g4, c4, rfl⟩ := ownsRow_pos hr4 (by have := HX.out; omega); rw [Nat.zero_add, HX.out] at hr4 ⊢; replace hr4 := owns_norm hr4 rfl; have hcell4 := hr4.cellAt (q * 2 + 1) (by omega); rw [(cellsL_get xs q (f q) HF.out).2] at hcell4; have hfr4 := hr4.frozenAt (q * 2 + 1))
        have hr5 := (hr4.stored (q * 2 + 1) (.slice da dl dc)).1
        rw [cellsL_set xs q (f q) ⟨(f q).tag, da, dl, dc, ds⟩ HF.out rfl, ← HY.out] at hr5
        have hg4b := (hr4.lt g4 rfl).1
        have hB5 : Below w1.heap.size w1 (w4.setCell ⟨g4, q * 2 + 1, none⟩ (.slice da dl dc)) := (((Below.refl _ w1).alloc (Nat.le_refl _) _).grown hg4 (by simp) (fun k e => by cases e; exact Nat.le_refl _)).setCell (p := ⟨g4, q * 2 + 1, none⟩) hg4b _
        have hB05 := hB.trans (hB5.mono hs1)
        have hs5 := hB05.size
        have hok5 : ∀ y ∈ ys, y.ok (w4.setCell ⟨g4, q * 2 + 1, none⟩ (.slice da dl dc)).heap.size (w4.setCell ⟨g4, q * 2 + 1, none⟩ (.slice da dl dc)) := by
          intro y hy
          rw [HY.out] at hy
          rcases List.mem_or_eq_of_mem_set hy with h | h
          · exact ((hI.2 y h).below hB05).mono hs5
          · subst h
            exact ⟨(hD.below hB05).mono hs5, (hI.2 (f q) (List.mem_of_getElem? HF.out)).2⟩
        have hF5 := Flds.of_own hr5 hok5
        refine (encode_any _ ys _ hF5).mono ?_
        rintro e w6 ⟨u6, rfl, hr6, hB6⟩
        have hB06 := hB05.trans (hB6.mono hs5)
        rw [show errR ys = 0 from by simp [errR, hyo]]
        obtain ⟨g6, c6, rfl⟩ := ownsRow_pos hr6 HL2p
        rw [HL2.out] at hr6 ⊢
        go_wp2_with fail
        haveI := lat_nonempty w6
        have hLb : L ≤ 1250750 := by omega
        have h5q := hf5 q hq
        have hdl : dl ≤ 5000 := by simp at hd; omega
        have kc := lat_cell ((hB06.cell (p := ⟨b, off + q * 2 + 1, none⟩) hb).trans hcq)
        have kB := lat_conv (((Bts.of_own hr (encR_byte hI.2)).below (hB5.trans (hB6.mono hB5.size))).mono (hB5.trans (hB6.mono hB5.size)).size) HA
        have kC := lat_conv (Bts.of_own hr6 (encR_byte hok5)) HC
        have kD := lat_conv ((hD.below hB06).mono hB06.size) HDs
        have kE := lat_conv (((hI.2 (f q) (List.mem_of_getElem? HF.out)).1.below hB06).mono hB06.size) HE
        unfold Fd.sl at kE
        refine wp_region_lat (by kernel_rfl) (by kernel_rfl) ?_
        repeat (go_big_quiet_step ((go_at_call 10; exact lat_alive _)))
        refine wpQuiet_nil ?_
        intro _ hw'
        obtain ⟨p, hw''⟩ := hw'
        subst hw''
        go_wp2
        go_ret
        exact ⟨rfl, hB06.trans (p.h.mono hB06.size)⟩
end Go.Proofs.Ytbkiafedadofdaa
