/- Numbers' texts in the program: number, Sum. -/
import Derived.Test.YtmahpceokpajgaaDoorLay
import Derived.Test.YtmahpceokpajgaaDoorBase
import Derived.Test.YtmahpceokpajgaaDoorNum
import Derived.Lib.SmallJoins
namespace Go.Proofs.YtmahpceokpajgaaDoor
open Go.RowKit Go.IntWalk Go.Maps Go.Shelf
set_option linter.unusedVariables false
theorem gEs : Tryd.prog.globalNamed "strconv.ErrSyntax" = some 1 := by kernel_rfl
theorem gEr : Tryd.prog.globalNamed "strconv.ErrRange" = some 2 := by kernel_rfl
theorem gTb : Tryd.prog.globalNamed "internal/strconv.uint64pow10" = some 0 := by kernel_rfl
/-- What the library's variables hold. -/
structure Dr (w : World) : Prop where
  es : ∃ tp p, w.var? Tryd.prog "strconv.ErrSyntax" = some #[.iface tp p]
  er : ∃ tp p, w.var? Tryd.prog "strconv.ErrRange" = some #[.iface tp p]
  tb : Lib.TabIs Tryd.prog w "internal/strconv.uint64pow10" .u64 Lib.pow10Tab
theorem Dr.below {w w' : World} {B : Nat} (h : Dr w) (hb : Below B w w') (hB : w.heap.size ≤ B) : Dr w' := by
  obtain ⟨t1, p1, h1⟩ := h.es
  obtain ⟨t2, p2, h2⟩ := h.er
  exact ⟨⟨t1, p1, Go.Joins.var_stays gEs h1 hb hB⟩, ⟨t2, p2, Go.Joins.var_stays gEr h2 hb hB⟩, Go.Joins.var_stays gTb h.tb hb hB⟩
theorem grown_of {w w' : World} (h : Below w.heap.size w w') : w.grownBy w' none := ⟨h.os, h.tape, h.output, h.size, fun k hk _ => h.block k hk⟩
theorem below_of' {w w' : World} (h : w.grownBy w' none) : Below w.heap.size w w' := ⟨h.os, h.tape, h.output, h.size, fun k hk => h.block k hk (by simp)⟩
theorem Dr.keep {w w' : World} (h : Dr w) (hg : w.grownBy w' none) : Dr w' := h.below (below_of' hg) (Nat.le_refl _)
theorem grown_grow (w : World) (k : Nat) (os : Array Obj) : w.grownBy (Sort.grow (w.drewN k) os) none := ⟨rfl, rfl, rfl, by show w.heap.size ≤ (w.heap ++ os).size; simp, fun j hj _ => by show (w.heap ++ os)[j]? = w.heap[j]?; rw [Array.getElem?_append_left hj]⟩
theorem fmt_any {w : World} (h : Dr w) (n : Int) (hn : In64 n) : Calls Tryd.prog 32 #[.int .i64 n, .int .i64 10] w fun e w' => e = .returned (.string (bt (Lib.itoa n))) ∧ w.grownBy w' none := by
  refine (Any.strconv_FormatInt_10 Tryd.lays173 n hn.1 hn.2 w h.tb).mono ?_
  rintro e w' ⟨rfl, k, os, rfl⟩
  exact ⟨rfl, grown_grow w k os⟩
theorem parse_ok (w : World) (k : K) (hk : k.length ≤ 1000000) (v : Int) (h : Lib.parseIntB 64 k = .ok v) : Calls Tryd.prog 43 #[.string (bt k), .int .i64 10, .int .i64 64] w fun e w' => e = .returned (.tuple #[.int .i64 v, .nilIface]) ∧ w.grownBy w' none := by
  refine (Any.strconv_ParseInt_10_at64_ok Tryd.lays174 (bt k) (by rw [bt_size]; omega) v h w).mono ?_
  rintro e w' ⟨rfl, rfl | ⟨t, rfl⟩⟩
  · exact ⟨rfl, grown_refl _⟩
  · exact ⟨rfl, grown_of (Lib.bytesWorld_below _ _ _)⟩
theorem parse_err {w : World} (h : Dr w) (k : K) (hk : k.length ≤ 1000000) (hn : ∀ v, Lib.parseIntB 64 k ≠ .ok v) : Calls Tryd.prog 43 #[.string (bt k), .int .i64 10, .int .i64 64] w fun e w' => ∃ (x : Int) (N : Nat), e = .returned (.tuple #[.int .i64 x, .iface 125 (.pointer (some ⟨N, 0, none⟩))]) ∧ w.grownBy w' none := by
  cases hp : Lib.parseIntB 64 k with
  | ok v => exact absurd hp (hn v)
  | «syntax» =>
    obtain ⟨tp, p, hv⟩ := h.es
    refine (Any.strconv_ParseInt_10_at64_syntax_var Tryd.lays174 (bt k) (by rw [bt_size]; omega) hp tp p w hv).mono ?_
    rintro e w' ⟨N, rfl, _, _, hb⟩
    exact ⟨0, N, rfl, grown_of hb⟩
  | range =>
    obtain ⟨tp, p, hv⟩ := h.er
    refine (Any.strconv_ParseInt_10_at64_range_var Tryd.lays174 (bt k) (by rw [bt_size]; omega) hp tp p w hv).mono ?_
    rintro e w' ⟨N, rfl, _, _, hb⟩
    exact ⟨_, N, rfl, grown_of hb⟩
/-- The number of a text, as it is handed back. -/
def numV (o : Option Int) : Value := match o with
  | some v => .tuple #[.int .i64 v, .bool true]
  | none => .tuple #[.int .i64 0, .bool false]
theorem str_eq (a b : K) : ((bt a).toList == (bt b).toList) = decide (a = b) := by
  rw [bt_toList, bt_toList, Bool.eq_iff_iff]
  simp only [beq_iff_eq, decide_eq_true_eq]
set_option maxRecDepth 100000 in
set_option maxHeartbeats 1000000 in
/-- number. -/
theorem number_any {w : World} (h : Dr w) (k : K) (hk : k.length ≤ 1000000) {o : Option Int} (ho : Hid (numOf k = o)) : Calls Tryd.prog 31 #[.string (bt k)] w fun e w' => e = .returned (numV o) ∧ w.grownBy w' none := by
  by_cases hp : ∃ v, Lib.parseIntB 64 k = .ok v
  · obtain ⟨v, hv⟩ := hp
    have c1 := parse_ok w k hk v hv
    have hin := parse_in hv
    replace h : Hid _ := ⟨h⟩
    have ho2 : Hid (o = if Lib.itoa v = k then some v else none) := ⟨by rw [← ho.out]; unfold numOf; rw [hv]⟩
    go_enter Tryd.func31, Tryd.ntmps31
    go_wp2_with (go_at_call 43; refine c1.mono ?_; rintro e w1 ⟨rfl, hg1⟩; refine Hid.out ?_)
    refine ⟨?_⟩
    have c2 := fmt_any (h.out.keep hg1) v hin
    replace hg1 : Hid _ := ⟨hg1⟩
    by_cases hk2 : Lib.itoa v = k
    · have hq : ((bt (Lib.itoa v)).toList == (bt k).toList) = true := by rw [str_eq]; simpa using hk2
      have ho3 : Hid (o = some v) := ⟨by rw [ho2.out, if_pos hk2]⟩
      clear hk2
      go_wp2_with (go_at_call 32; refine c2.mono ?_; rintro e w2 ⟨rfl, hg2⟩)
      go_ret2
      exact ⟨by rw [ho3.out]; rfl, grown_none hg1.out hg2⟩
    · have hq : ((bt (Lib.itoa v)).toList == (bt k).toList) = false := by rw [str_eq]; simpa using hk2
      have ho3 : Hid (o = none) := ⟨by rw [ho2.out, if_neg hk2]⟩
      clear hk2
      go_wp2_with (go_at_call 32; refine c2.mono ?_; rintro e w2 ⟨rfl, hg2⟩)
      go_ret2
      exact ⟨by rw [ho3.out]; rfl, grown_none hg1.out hg2⟩
  · have hn : ∀ v, Lib.parseIntB 64 k ≠ .ok v := fun v hv => hp ⟨v, hv⟩
    have c1 := parse_err h k hk hn
    have ho3 : Hid (o = none) := ⟨by
      rw [← ho.out]
      cases h2 : numOf k with
      | none => rfl
      | some v =>
        obtain ⟨e1, e2⟩ := numOf_some h2
        exact absurd (by rw [e1]; exact parse_itoa v e2.1 e2.2) (hn v)⟩
    clear hn hp
    go_enter Tryd.func31, Tryd.ntmps31
    go_wp2_with (go_at_call 43; refine c1.mono ?_; rintro e w1 ⟨x, N, rfl, hg1⟩)
    go_ret2
    exact ⟨by rw [ho3.out]; rfl, hg1⟩
end Go.Proofs.YtmahpceokpajgaaDoor
