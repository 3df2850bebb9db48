/- Which place, which figure, which of two timers comes ahead: unlike, figure, compare. -/
import Derived.Test.YtblnhcnfeagjhaaGreatDoorWMa
import Derived.Test.YtblnhcnfeagjhaaGreatDoorWLay
import Derived.Shelf.SlSortCmp.Xorshift
import Derived.Shelf.Strconv.Itoa0
import Derived.Lib.ItoaNum
import Derived.Shelf.SlSortCmp.NoneTotal
import Derived.Sort.KeysCollected
import Derived.Sort.OwnSorted
namespace Go.Proofs.YtblnhcnfeagjhaaGreatDoor.W
open Go.RowKit Go.IntWalk Go.Maps Go.Shelf
set_option linter.unusedVariables false
theorem bits_any (x : Int) (w : World) (h0 : 0 ≤ x) (h1 : x ≤ 18446744073709551615) : Calls Tryz.prog 105 #[.int .u64 x] w fun e w' => e = .returned (.int .i64 (Lib.bitLen x.toNat)) ∧ w' = w := by
  have L := SlLaysF0.n15.bits (P := Tryz.prog) (ρ := Tryz.sortT_ren) { Tryz.sortT with }
  exact Any.bits_Len64 (P := Tryz.prog) { L with } x w h0 h1
set_option maxRecDepth 100000 in
set_option maxHeartbeats 1000000 in
theorem xor_bits {a b : Int} (ha : 0 ≤ a ∧ a < 18446744073709551616) (hb : 0 ≤ b ∧ b < 18446744073709551616) : bits .xor .u64 a b = ((a.toNat ^^^ b.toNat : Nat) : Int) := by
  have h1 : a.toNat ^^^ b.toNat < 2 ^ 64 := Nat.xor_lt_two_pow (by omega) (by omega)
  obtain ⟨x, rfl⟩ := Int.eq_ofNat_of_zero_le ha.1
  obtain ⟨y, rfl⟩ := Int.eq_ofNat_of_zero_le hb.1
  rw [Int.toNat_natCast, Int.toNat_natCast] at *
  unfold bits
  show IntKind.wrap .u64 ((BitVec.ofInt 64 (x : Int) ^^^ BitVec.ofInt 64 (y : Int)).toNat : Int) = _
  rw [BitVec.ofInt_natCast, BitVec.ofInt_natCast, BitVec.toNat_xor, BitVec.toNat_ofNat, BitVec.toNat_ofNat, Nat.mod_eq_of_lt (by omega), Nat.mod_eq_of_lt (by omega)]
  simp [IntKind.wrap, IntKind.bits, IntKind.signed]
  omega
/-- What bits.Len64 of a difference tells. -/
theorem len_lv {a b : Nat} (ha : a < 16 ^ 16) (hb : b < 16 ^ 16) (hne : a ≠ b) : ((Lib.bitLen (a ^^^ b) : Int) - 1) / 4 = lv a b ∧ 1 ≤ Lib.bitLen (a ^^^ b) ∧ Lib.bitLen (a ^^^ b) ≤ 64 := by
  have h0 : a ^^^ b ≠ 0 := fun h => hne (xor_zero'.1 h)
  have h1 : a ^^^ b < 2 ^ 64 := Nat.xor_lt_two_pow (by simpa using ha) (by simpa using hb)
  obtain ⟨h2, h3, h4⟩ := Lib.bitLenAux_bounds 64 (a ^^^ b) h1 h0
  have h5 := Lib.bitLen_le (a ^^^ b) 64 (by omega) h1
  change 1 ≤ Lib.bitLen (a ^^^ b) at h2
  change 2 ^ (Lib.bitLen (a ^^^ b) - 1) ≤ _ at h3
  change _ < 2 ^ Lib.bitLen (a ^^^ b) at h4
  have h6 := lv_eq ha hb (isLv_xor h3 (by rw [Nat.sub_add_cancel h2]; exact h4))
  refine ⟨?_, h2, h5⟩
  rw [h6]
  omega
set_option maxRecDepth 100000 in
set_option maxHeartbeats 1000000 in
/-- wheel.unlike. -/
theorem unlike_any (a b : Int) (w : World) (ha : 0 ≤ a ∧ a < 18446744073709551616) (hb : 0 ≤ b ∧ b < 18446744073709551616) (hne : a ≠ b) : Calls Tryz.prog 86 #[.int .u64 a, .int .u64 b] w fun e w' => e = .returned (.int .i64 (lv a.toNat b.toNat)) ∧ w' = w := by
  have h1 := xor_bits ha hb
  have hA : a.toNat < 16 ^ 16 := by omega
  have hB : b.toNat < 16 ^ 16 := by omega
  obtain ⟨h2, h3, h4⟩ := len_lv hA hB (by omega)
  have h5 : a.toNat ^^^ b.toNat < 2 ^ 64 := Nat.xor_lt_two_pow (by omega) (by omega)
  have hc := bits_any ((a.toNat ^^^ b.toNat : Nat) : Int) w (by omega) (by omega)
  rw [Int.toNat_natCast] at hc
  rw [← h1] at hc
  rw [← h2]
  clear hA hB h1 h2 hne h5
  generalize Lib.bitLen (a.toNat ^^^ b.toNat) = q at *
  go_enter Tryz.func86, Tryz.ntmps86
  go_wp2_with (go_at_call 105; refine hc.mono ?_; rintro e w' ⟨rfl, rfl⟩)
  go_ret
  exact ⟨rfl, rfl⟩
theorem shr_fg {a : Int} (k : Nat) (ha : 0 ≤ a ∧ a < 18446744073709551616) : wrap64 ((a / 2 ^ (4 * k)).tmod 16) = (fg a.toNat k : Int) := by
  obtain ⟨n, rfl⟩ := Int.eq_ofNat_of_zero_le ha.1
  have h1 : ((n : Int) / 2 ^ (4 * k)).tmod 16 = ((n / 2 ^ (4 * k) % 16 : Nat) : Int) := by
    rw [Int.tmod_eq_emod_of_nonneg (Int.ediv_nonneg (by omega) (by exact Int.le_of_lt (Int.pow_pos (by omega))))]
    simp
  have h2 : (16 : Nat) ^ k = 2 ^ (4 * k) := by rw [Nat.pow_mul]
  have h3 := fg_lt n k
  rw [h1, Int.toNat_natCast]
  unfold fg at *
  rw [h2] at *
  unfold wrap64
  omega
set_option maxRecDepth 100000 in
set_option maxHeartbeats 1000000 in
/-- wheel.figure. -/
theorem figure_any (a : Int) (k : Nat) (w : World) (ha : 0 ≤ a ∧ a < 18446744073709551616) (hk : k < 16) : Calls Tryz.prog 87 #[.int .u64 a, .int .i64 k] w fun e w' => e = .returned (.int .i64 (fg a.toNat k)) ∧ w' = w := by
  have h1 := shr_fg k ha
  rw [← h1]
  clear h1
  go_enter Tryz.func87, Tryz.ntmps87
  go_wp2
  go_ret
  exact ⟨rfl, rfl⟩
/-- What cmp.Compare answers. -/
def c3 (p q : Bool) : Int := if p then -1 else if q then 1 else 0
set_option maxRecDepth 100000 in
set_option maxHeartbeats 1000000 in
theorem cmpu_any (a b : Int) (w : World) {p q : Bool} (hp : decide (a < b) = p) (hq : decide (b < a) = q) : Calls Tryz.prog 92 #[.int .u64 a, .int .u64 b] w fun e w' => e = .returned (.int .i64 (c3 p q)) ∧ w' = w := by
  have hn : ∀ (x : Int) (w : World), Calls Tryz.prog 117 #[.int .u64 x] w fun e w' => e = .returned (.bool false) ∧ w' = w := by
    intro x w
    go_enter Tryz.func117, Tryz.ntmps117
    go_wp2
    go_ret
    exact ⟨rfl, rfl⟩
  cases p with
  | true =>
    go_enter Tryz.func92, Tryz.ntmps92
    go_wp2_with (go_at_call 117; refine (hn _ _).mono ?_; rintro e w' ⟨rfl, rfl⟩)
    go_ret
    exact ⟨rfl, rfl⟩
  | false =>
    cases q with
    | true =>
      go_enter Tryz.func92, Tryz.ntmps92
      go_wp2_with (go_at_call 117; refine (hn _ _).mono ?_; rintro e w' ⟨rfl, rfl⟩)
      go_ret
      exact ⟨rfl, rfl⟩
    | false =>
      go_enter Tryz.func92, Tryz.ntmps92
      go_wp2_with (go_at_call 117; refine (hn _ _).mono ?_; rintro e w' ⟨rfl, rfl⟩)
      go_ret
      exact ⟨rfl, rfl⟩
set_option maxRecDepth 100000 in
set_option maxHeartbeats 1000000 in
theorem cmps_any (a b : ByteArray) (w : World) {p q : Bool} (hp : Op.bytesLess a.toList b.toList = p) (hq : Op.bytesLess b.toList a.toList = q) : Calls Tryz.prog 93 #[.string a, .string b] w fun e w' => e = .returned (.int .i64 (c3 p q)) ∧ w' = w := by
  have hn : ∀ (x : ByteArray) (w : World), Calls Tryz.prog 118 #[.string x] w fun e w' => e = .returned (.bool false) ∧ w' = w := by
    intro x w
    go_enter Tryz.func118, Tryz.ntmps118
    go_wp2
    go_ret
    exact ⟨rfl, rfl⟩
  cases p with
  | true =>
    go_enter Tryz.func93, Tryz.ntmps93
    go_wp2_with (go_at_call 118; refine (hn _ _).mono ?_; rintro e w' ⟨rfl, rfl⟩)
    go_ret
    exact ⟨rfl, rfl⟩
  | false =>
    have he : (a.toList == b.toList) = !q := by
      rw [bytesLess_eq] at hp hq
      rw [← hq]
      have h1 : ¬ a.toList < b.toList := by simpa using hp
      have h2 : b.toList ≤ a.toList := h1
      rw [List.le_iff_lt_or_eq] at h2
      rcases h2 with h2 | h2
      · have h3 : ¬ a.toList = b.toList := fun e => List.lt_irrefl _ (e ▸ h2)
        simp [h2, h3]
      · rw [h2]
        simp
    cases q with
    | true =>
      go_enter Tryz.func93, Tryz.ntmps93
      go_wp2_with (go_at_call 118; refine (hn _ _).mono ?_; rintro e w' ⟨rfl, rfl⟩)
      go_ret
      exact ⟨rfl, rfl⟩
    | false =>
      go_enter Tryz.func93, Tryz.ntmps93
      go_wp2_with (go_at_call 118; refine (hn _ _).mono ?_; rintro e w' ⟨rfl, rfl⟩)
      go_ret
      exact ⟨rfl, rfl⟩
/-- What compare answers. -/
def cfE (a b : E) : Int := c3 (ltb a b) (ltb b a)
set_option maxRecDepth 100000 in
set_option maxHeartbeats 1000000 in
/-- Timer.compare. -/
theorem compare_any (a b : E) (w : World) : Calls Tryz.prog 70 #[.agg #[.string a.n, .int .u64 a.at_], .agg #[.string b.n, .int .u64 b.at_]] w fun e w' => e = .returned (.int .i64 (cfE a b)) ∧ w' = (w.alloc (.cells #[.string a.n, .int .u64 a.at_] 86)).alloc (.cells #[.string b.n, .int .u64 b.at_] 86) := by
  obtain ⟨an, aa⟩ := a
  obtain ⟨bn, ba⟩ := b
  dsimp only
  by_cases h1 : aa = ba
  · have hc := fun w => cmps_any an bn w rfl rfl
    have hr : cfE ⟨an, aa⟩ ⟨bn, ba⟩ = c3 (Op.bytesLess an.toList bn.toList) (Op.bytesLess bn.toList an.toList) := by
      unfold cfE ltb
      rw [bytesLess_eq, bytesLess_eq]
      simp [h1]
    rw [hr]
    generalize c3 (Op.bytesLess an.toList bn.toList) (Op.bytesLess bn.toList an.toList) = r at *
    have hb : (aa != ba) = false := by simp [h1]
    clear h1 hr
    go_enter Tryz.func70, Tryz.ntmps70
    go_wp2_with (go_at_call 93; refine (hc _).mono ?_; rintro e w' ⟨rfl, rfl⟩)
    go_ret
    exact ⟨rfl, rfl⟩
  · have hc := fun w => cmpu_any aa ba w rfl rfl
    have hr : cfE ⟨an, aa⟩ ⟨bn, ba⟩ = c3 (decide (aa < ba)) (decide (ba < aa)) := by
      unfold cfE ltb
      have h2 : ¬ ba = aa := fun e => h1 e.symm
      simp [h1, h2]
    rw [hr]
    generalize c3 (decide (aa < ba)) (decide (ba < aa)) = r at *
    have hb : (aa != ba) = true := by simp [h1]
    clear h1 hr
    go_enter Tryz.func70, Tryz.ntmps70
    go_wp2_with (go_at_call 92; refine (hc _).mono ?_; rintro e w' ⟨rfl, rfl⟩)
    go_ret
    exact ⟨rfl, rfl⟩
end Go.Proofs.YtblnhcnfeagjhaaGreatDoor.W

/- Sets of timers: add, timers, empty, inOrder, and the least one. -/
namespace Go.Proofs.YtblnhcnfeagjhaaGreatDoor.W
open Go.RowKit Go.IntWalk Go.Maps Go.Shelf
set_option linter.unusedVariables false
set_option maxRecDepth 100000 in
set_option maxHeartbeats 1000000 in
/-- set.add. -/
theorem add_any (w : World) {b : Nat} {l l' : List E} (h : Sset w b l) (hl : l.length < maxLen) {e : E} (he : e.ok) (hn : l'.Nodup) (hm : ∀ x, x ∈ l' ↔ x = e ∨ x ∈ l) :
    Calls Tryz.prog 68 #[.map (some b), .agg #[.string e.n, .int .u64 e.at_]] w fun r w' => r = .returned (.tuple #[]) ∧ Sset w' b l' ∧ w.grownBy w' (some b) := by
  have hg1 := World.grownBy_alloc w (.cells #[.string e.n, .int .u64 e.at_] 86) none
  obtain ⟨w2, hrun, hs2, hg2⟩ := (h.kept (w' := w.alloc (.cells #[.string e.n, .int .u64 e.at_] 86)) (hg1.block b h.lt (by simp))).store hl he hn hm
  replace hg2 : Hid _ := ⟨hg2⟩
  replace hs2 : Hid _ := ⟨hs2⟩
  go_enter Tryz.func68, Tryz.ntmps68
  go_wp2
  go_end0
  exact ⟨rfl, hs2.out, grown_same hg1 hg2.out⟩
theorem wpList_append_run {ops : Array Oper} {rest : List Oper} {o : Oper} {a : Act} {w : World} {Q : Exit → Act → World → Prop} (hg : o.guard = none) (sl x : Operand) (t : TypeId) (hop : o.op = Op.call { callee := Callee.builtin Builtin.append, args := #[sl, x], argTypes := #[t, t] })
    (v u : Value) (hs : a.eval sl = v) (hx : a.eval x = u) {v' : Value} {w' : World} (hrun : (Builtin.append_ #[t, t] o.type #[v, u]).run Tryz.prog w = .ok v' w') (hK : wpList Tryz.prog ops Q rest (a.put o.dst v') w') :
    wpList Tryz.prog ops Q (o :: rest) a w := by
  refine wpList_plain hg fun K hK' => ?_
  unfold Oper.wp
  simp [execOp, hop, resolve, invoke, builtin, hs, hx, hrun, Result.andThen]
  exact hK' _ _ hK
theorem Tryz.info86 : (Tryz.prog.info? 86).map (fun i => (i.zero, i.size, i.bytes)) = some (some (.agg #[.string ByteArray.empty, .int .u64 0]), 2, 24) := by kernel_rfl
/-- 'append(l, e)', e anywhere in memory. -/
theorem run_append_t (w : World) (rv : Value) (es : List E) (e : E) (B : Nat) (hB : w.cell? ⟨B, 0, none⟩ = some (.string e.n) ∧ w.cell? ⟨B, 1, none⟩ = some (.int .u64 e.at_)) (hrow : Rw 86 w rv es) (hl : es.length ≤ 1000000) (ty : TypeId) :
    ∃ a cap w', (Builtin.append_ #[83, 83] ty #[rv, .slice (some ⟨B, 0, none⟩) 1 1]).run Tryz.prog w = .ok (.slice a (es.length + 1) cap) w' ∧ Rw 86 w' (.slice a (es.length + 1) cap) (es ++ [e]) ∧ w.grownBy w' rv.ownBlock ∧
      ((Value.slice a (es.length + 1) cap).ownBlock = rv.ownBlock ∨ ∃ k, (Value.slice a (es.length + 1) cap).ownBlock = some k ∧ w.heap.size ≤ k) := by
  obtain ⟨i0, hi, hz0, hz1, hz2⟩ := info_parts Tryz.info86
  obtain ⟨v', w', hrun, h1, h2, _, h4⟩ := run_append_own_at (P := Tryz.prog) (w := w) 0 83 ty 86 i0 (.agg #[.string ByteArray.empty, .int .u64 0]) 2 24 Tryz.underlying83 hi hz0 hz1 hz2 rfl (by decide) rv es.length _ hrow ⟨B, 0, none⟩ 1 1 e.cells rfl (fun j u hj => by
    rw [addr_add, Nat.zero_add]
    match j, hj with
    | 0, hj => simp [E.cells] at hj; subst hj; exact hB.1
    | 1, hj => simp [E.cells] at hj; subst hj; exact hB.2
    | j + 2, hj => simp [E.cells] at hj) (fun u hu => by
    simp only [E.cells, List.mem_cons, List.not_mem_nil, or_false] at hu
    rcases hu with rfl | rfl <;> rfl) (by unfold maxLen; omega) (by omega) (by omega)
  have hlen : (es ++ [e]).length = es.length + 1 := by simp
  have hce : cellsE es ++ e.cells = cellsE (es ++ [e]) := by rw [cellsE_app]; simp [cellsE]
  rw [hce] at h1
  obtain ⟨a, cap, rfl⟩ : ∃ a cap, v' = .slice a (es.length + 1) cap := by
    rcases h1.2 with ⟨_, h0⟩ | ⟨g, c, cur, e1, _⟩
    · omega
    · exact ⟨_, _, e1⟩
  refine ⟨a, cap, w', hrun, by unfold Rw; rw [hlen]; exact h1, h2, ?_⟩
  rcases h4 with h4 | h4
  · exact .inl h4
  · exact .inr ⟨_, h4, by simp⟩
/-- ss: the timers that have come. -/
def Come (l : List E) (left : Lit → Bool) (ss : List E) : Prop := ss.Nodup ∧ ∀ x, x ∈ ss ↔ (x ∈ l ∧ left (kyE x) = false)
theorem Come.start {D : DataW Value} {l : List E} (h : ∀ e ∈ l, Maps.has D (kyE e) = true) : Come l (Maps.has D) [] := ⟨List.nodup_nil, fun x => by
  constructor
  · intro hx; cases hx
  · rintro ⟨hx, h2⟩; rw [h x hx] at h2; cases h2⟩
theorem Come.step {l : List E} {left : Lit → Bool} {ss : List E} (h : Come l left ss) (hok : ∀ e ∈ l, e.ok) {x : E} (hlk : left (kyE x) = true) (hx : x ∈ l) : Come l (fun z => left z && !z.sameKey (kyE x)) (ss ++ [x]) := by
  have hxs : x ∉ ss := fun hm => by
    have := ((h.2 x).1 hm).2
    rw [hlk] at this
    cases this
  refine ⟨List.nodup_append.2 ⟨h.1, by simp, fun a ha b hb => by simp at hb; rintro rfl; exact hxs (hb ▸ ha)⟩, fun y => ?_⟩
  simp only [List.mem_append, List.mem_singleton, h.2 y]
  by_cases hyx : y = x
  · subst hyx
    have : (kyE y).sameKey (kyE y) = true := WideAt.sameKey_self (kyE_key y)
    simp [hx, this]
  · by_cases hyl : y ∈ l
    · have : (kyE y).sameKey (kyE x) = false := sameKey_ne fun e => hyx (kyE_inj (hok y hyl) (hok x hx) e)
      simp [hyx, hyl, this]
    · simp [hyx, hyl]
theorem Come.done {l : List E} {left : Lit → Bool} {ss : List E} (h : Come l left ss) (hl : ∀ kl, left kl = false) : ∀ x, x ∈ ss ↔ x ∈ l := fun x => by rw [h.2 x, hl]; simp
set_option maxRecDepth 100000 in
set_option maxHeartbeats 2000000 in
/-- set.timers. -/
theorem timers_any (w : World) {b : Nat} {l : List E} (h : Sset w b l) (hl : l.length ≤ 100000) :
    Calls Tryz.prog 82 #[.map (some b)] w fun r w' => ∃ g cap ss, r = .returned (.slice (some ⟨g, 0, none⟩) ss.length cap) ∧ Rw 86 w' (.slice (some ⟨g, 0, none⟩) ss.length cap) ss ∧ w.heap.size ≤ g ∧ ss.Nodup ∧ (∀ x, x ∈ ss ↔ x ∈ l) ∧ w.grownBy w' none := by
  obtain ⟨i0, hi, hz0, hz1, hz2⟩ := info_parts Tryz.info86
  have hbl := h.lt
  have hml := h.len 3
  obtain ⟨D, hown, hh1, hh2, hsz⟩ := h.own
  have hok := h.ok
  rw [hsz] at hown
  go_enter Tryz.func82, Tryz.ntmps82
  go_wp2_with (first
    | (at_make; refine wpList_make_own _ rfl _ _ 83 rfl 0 86 i0 (.agg #[.string ByteArray.empty, .int .u64 0]) 2 Tryz.underlying83 hi hz0 hz1 _ _ _ l.length rfl rfl rfl (by rw [hz2]; omega) (by unfold maxLen; omega) (Nat.zero_le _) ?_; intro w1 hrow1 hg1)
    | (at_range; refine wpList_range_own _ rfl _ 102 rfl 86 141 keyed52 Tryz.underlying102 _ b l.length _ rfl (hown.kept hg1 (by simp)) ?_; intro w0 hrg0 hg0 hs0)
    | go_in)
  go_frame
  go_loopw [3] (fun v wr => ∃ (left : Lit → Bool) (cnt : Nat) (ss : List E) (g cap : Nat), v = .slice (some ⟨g, 0, none⟩) ss.length cap ∧ wr.ranges Tryz.prog 86 unitElem b w1.heap.size l.length D left cnt ∧ Hid (ss.length + cnt ≤ l.length) ∧
      Hid (Rw 86 wr (.slice (some ⟨g, 0, none⟩) ss.length cap) ss) ∧ Hid (w.heap.size ≤ g) ∧ Hid (Come l left ss) ∧ Hid (w.grownBy wr none))
    (fun _ wr => wr.rangeLeft b w1.heap.size)
  case atStart =>
    exact ⟨_, _, [], w.heap.size, l.length, rfl, hrg0, ⟨by rw [hsz]; simp⟩, ⟨World.ownsRow.kept hrow1 hg0 (Or.inr (by simp [Value.ownBlock]))⟩, ⟨Nat.le_refl _⟩, ⟨Come.start hh1⟩, ⟨grown_none hg1 hg0⟩⟩
  case round =>
    obtain ⟨left, cnt, ss, g, cap, rfl, hrg, hcs, hrow, hgw, hC, hnx⟩ := hrel
    go_wp2_with (first
      | (at_next; refine wpList_next_ranges _ rfl _ rfl 86 keyed52 unitElem (fun x : E => Value.agg #[.string x.n, .int .u64 x.at_]) (fun _ : Unit => Value.agg #[]) (fun key kl hk => inv52 hk) (fun v y hv => ⟨(), (unitElem_inv hv).1⟩) b w1.heap.size l.length _ _ _ rfl hrg ?_ ?_)
      | go_in)
    · intro hc0 hl0
      go_wp2
      go_ret
      exact ⟨g, cap, ss, rfl, hrow.out, hgw.out, hC.out.1, hC.out.done hl0, hnx.out⟩
    · intro x kl yd yp w2 cnt2 hkey hlk hv hat hrg2 hlt hg2 hs2 hen
      have hne : (w1.heap.size : Nat) ≠ g := by
        intro e
        obtain ⟨es, clock, since, seen, c0, _, _, _, _, hr, _⟩ := hrg
        rcases hrow.out.2 with ⟨e1, _⟩ | ⟨g', c, cur, e1, _, hg', _⟩
        · cases e1
        · simp only [Value.slice.injEq, Option.some.injEq, Addr.mk.injEq] at e1
          rw [← e1.1.1, ← e, hr] at hg'
          cases hg'
      have hhas : Maps.has D kl = true := has_true_of_atKey hat
      have hxok : x.ok := by
        obtain ⟨hk1, hk2⟩ := inv52ok hkey
        exact ⟨hk1, hk2⟩
      obtain rfl : kyE x = kl := by
        have h1 := key52 hxok
        have h2 := hkey
        rw [show Value.agg #[.string x.n, .int .u64 x.at_] = x.val from rfl, h1] at h2
        exact Option.some.inj h2
      have hxl : x ∈ l := hh2 x hxok hhas
      have hC2 : Hid (Come l (fun z => left z && !z.sameKey (kyE x)) (ss ++ [x])) := ⟨hC.out.step hok hlk hxl⟩
      have hrow2 : Rw 86 w2 (.slice (some ⟨g, 0, none⟩) ss.length cap) ss := World.ownsRow.kept hrow.out hg2 (Or.inr (by simp [Value.ownBlock]; exact fun e => hne e.symm))
      have hg3 := World.grownBy_alloc w2 (.cells #[.string x.n, .int .u64 x.at_] 86) none
      have hg4 := World.grownBy_alloc (w2.alloc (.cells #[.string x.n, .int .u64 x.at_] 86)) (.cells #[.string x.n, .int .u64 x.at_] 86) none
      have hg5 := grown_none hg3 hg4
      have hsl := hcs.out
      obtain ⟨oa, oc, w3, hrun, hr3, hg6, ho⟩ := run_append_t ((w2.alloc (.cells #[.string x.n, .int .u64 x.at_] 86)).alloc (.cells #[.string x.n, .int .u64 x.at_] 86)) (.slice (some ⟨g, 0, none⟩) ss.length cap) ss x (w2.heap.size + 1) ⟨by simp, by simp⟩ (World.ownsRow.kept hrow2 hg5 (Classical.em _)) (by omega) 83
      have hsz2 : w2.heap.size = wr.heap.size := hs2
      clear hkey hlk hv hat hs2 hhas
      replace hg6 : Hid _ := ⟨hg6⟩
      replace hr3 : Hid _ := ⟨hr3⟩
      replace ho : Hid _ := ⟨ho⟩
      replace hsz2 : Hid _ := ⟨hsz2⟩
      replace hrg2 : Hid _ := ⟨hrg2⟩
      go_wp2_with (first
        | (at_builtin; refine wpList_append_run rfl _ _ 83 rfl _ _ rfl rfl hrun ?_)
        | go_in)
      go_roundw
      case rel =>
        have hlen : (ss ++ [x]).length = ss.length + 1 := by simp
        have hgl : g < w2.heap.size := by
          rcases hrow2.2 with ⟨e1, _⟩ | ⟨g', c, cur, e1, _, hg', _⟩
          · cases e1
          · simp only [Value.slice.injEq, Option.some.injEq, Addr.mk.injEq] at e1
            rw [e1.1.1]
            exact (Array.getElem?_eq_some_iff.1 hg').1
        obtain ⟨g', rfl⟩ : ∃ g', oa = some ⟨g', 0, none⟩ := by
          rcases hr3.out.2 with ⟨e1, e2⟩ | ⟨g', c, cur, e1, _⟩
          · simp at e2
          · simp only [Value.slice.injEq] at e1
            exact ⟨g', e1.1⟩
        have hws := hnx.out.size
        have hw1 : w1.heap.size < w2.heap.size := hrg2.out.lt
        have hrg4 := (hrg2.out.alloc (.cells #[.string x.n, .int .u64 x.at_] 86)).alloc (.cells #[.string x.n, .int .u64 x.at_] 86)
        have hbw : b ≠ g := by have := hgw.out; omega
        refine ⟨_, cnt2, ss ++ [x], g', oc, by rw [hlen], hrg4.kept hg6.out (by simp [Value.ownBlock]; exact hbw) (by simp [Value.ownBlock]; exact hne), ⟨by omega⟩, ⟨by rw [hlen]; exact hr3.out⟩, ⟨?_⟩, hC2, ⟨?_⟩⟩
        · rcases ho.out with h1 | ⟨k, h1, h2⟩
          · simp [Value.ownBlock] at h1
            rw [h1]; exact hgw.out
          · simp [Value.ownBlock] at h1
            subst h1
            simp at h2
            have := hsz2.out
            omega
        · have h1 := grown_new hnx.out hg2 (by have := hg1.size; omega)
          exact (grown_none h1 hg5).andThen hg6.out fun j hj => .inl (by simp [Value.ownBlock] at hj; subst hj; exact hgw.out)
      case measure =>
        have hrg4 := (hrg2.out.alloc (.cells #[.string x.n, .int .u64 x.at_] 86)).alloc (.cells #[.string x.n, .int .u64 x.at_] 86)
        have hbw : b ≠ g := by have := hgw.out; omega
        have hrg5 := hrg4.kept hg6.out (by simp [Value.ownBlock]; exact hbw) (by simp [Value.ownBlock]; exact hne)
        rw [hrg5.left_eq, hrg.left_eq]
        exact hlt
set_option maxRecDepth 100000 in
set_option maxHeartbeats 1000000 in
/-- set.empty. -/
theorem empty_any (w : World) {b : Nat} {l : List E} (h : Sset w b l) (hl : l.length ≤ 100000) :
    Calls Tryz.prog 89 #[.map (some b)] w fun r w' => ∃ g cap ss, r = .returned (.slice (some ⟨g, 0, none⟩) ss.length cap) ∧ Rw 86 w' (.slice (some ⟨g, 0, none⟩) ss.length cap) ss ∧ w.heap.size ≤ g ∧ ss.Nodup ∧ (∀ x, x ∈ ss ↔ x ∈ l) ∧ Sset w' b [] ∧ w.grownBy w' (some b) := by
  go_enter Tryz.func89, Tryz.ntmps89
  go_wp2_with fail
  refine (timers_any w h hl).mono ?_
  rintro r w1 ⟨g, cap, ss, rfl, hr, hg, hn, hm, hgr⟩
  obtain ⟨w2, hrun, hs2, hg2⟩ := (h.kept (hgr.block b h.lt (by simp))).clear 0
  have hne : b ≠ g := by have := h.lt; omega
  replace hr : Hid _ := ⟨hr⟩
  replace hg2 : Hid _ := ⟨hg2⟩
  replace hs2 : Hid _ := ⟨hs2⟩
  replace hm : Hid _ := ⟨hm⟩
  go_wp2
  go_ret
  exact ⟨g, cap, ss, rfl, World.ownsRow.kept hr.out hg2.out (Or.inr (by simp [Value.ownBlock]; exact fun e => hne e.symm)), hg, hn, hm.out, hs2.out, grown_same hgr hg2.out⟩
end Go.Proofs.YtblnhcnfeagjhaaGreatDoor.W

/- Timers sorted: slices.SortFunc by compare; set.inOrder. -/
namespace Go.Proofs.YtblnhcnfeagjhaaGreatDoor.W
open Go.RowKit Go.IntWalk Go.Maps Go.Shelf Go.Sort
set_option linter.unusedVariables false
theorem lt_cf (x y : E) : ltOf cfE x y = ltb x y := by
  unfold ltOf cfE c3
  cases h : ltb x y <;> cases k : ltb y x <;> simp
theorem swo_cf : SWO (ltOf cfE) := {
  irrefl := fun x => by rw [lt_cf]; exact ltb_f (lt_irrefl x)
  trans := fun x y z h1 h2 => by rw [lt_cf] at *; exact ltb_iff.2 (lt_trans (ltb_iff.1 h1) (ltb_iff.1 h2))
  ntrans := fun x y z h1 h2 => by
    rw [lt_cf] at *
    refine ltb_f (nlt_trans (fun h => ?_) (fun h => ?_) (b := y))
    · rw [ltb_iff.2 h] at h1; cases h1
    · rw [ltb_iff.2 h] at h2; cases h2 }
theorem tot_cf (x y : E) (h1 : ltOf cfE x y = false) (h2 : ltOf cfE y x = false) : x = y := by
  rw [lt_cf] at h1 h2
  rcases lt_tri x y with h | h | h
  · rw [ltb_iff.2 h] at h1; cases h1
  · exact h
  · rw [ltb_iff.2 h] at h2; cases h2
theorem flat_cells [Inhabited E] (es : List E) : flatK E.cells 2 es.toArray = (cellsE es).toArray := by
  apply Array.ext
  · simp [cellsE_len]
  · intro j h1 h2
    have hj : j < es.length * 2 := by simpa using h1
    have hj2 : j / 2 < es.length := by omega
    have h3 := cellsE_at (List.getElem?_eq_getElem hj2)
    have h4 : (flatK E.cells 2 es.toArray)[j]! = (flatK E.cells 2 es.toArray)[j] := getElem!_pos _ j h1
    rw [← h4, get_flatK _ _ _ _ (by simpa using hj)]
    have h5 : es.toArray[j / 2]! = es[j / 2] := by rw [getElem!_pos _ _ (by simpa using hj2)]; simp
    rw [h5]
    apply Option.some.inj
    have h6 : some (cellsE es).toArray[j] = (cellsE es)[j]? := by rw [List.getElem?_eq_getElem (by rw [cellsE_len]; exact hj)]; simp
    rw [h6]
    rcases Nat.mod_two_eq_zero_or_one j with h7 | h7
    · have h8 : j = j / 2 * 2 := by omega
      rw [h7]
      conv => rhs; rw [h8]
      rw [h3.1]
      rfl
    · have h8 : j = j / 2 * 2 + 1 := by omega
      rw [h7]
      conv => rhs; rw [h8]
      rw [h3.2]
      rfl
theorem holds_row [Inhabited E] {w : World} {g cap : Nat} {es : List E} (h : Rw 86 w (.slice (some ⟨g, 0, none⟩) es.length cap) es) : HoldsK E.cells 2 w g 0 es.toArray := by
  unfold HoldsK
  rw [flat_cells]
  intro j hj
  have hj' : j < (cellsE es).length := by simpa using hj
  have h1 := h.cells (g := g) rfl j _ (List.getElem?_eq_getElem hj')
  rw [addr_add] at h1
  refine ⟨?_, ?_⟩
  · rw [h1, getElem!_pos _ j hj]
    simp
  · rcases h.2 with ⟨e, _⟩ | ⟨g', c, cur, e, _, hb, _⟩
    · cases e
    · simp only [Value.slice.injEq, Option.some.injEq, Addr.mk.injEq] at e
      rw [← e.1.1] at hb
      simp [World.frozen?, hb]
theorem take_put (cur : Array Value) (ts : List Value) (h : ts.length ≤ cur.size) : (putCells id 0 ts.toArray cur).toList.take ts.length = ts := by
  apply List.ext_getElem?
  intro j
  by_cases hj : j < ts.length
  · rw [List.getElem?_take_of_lt hj, Array.getElem?_toList]
    simp [putCells, hj, show j < cur.size by omega]
  · rw [List.getElem?_take_eq_none (by omega), List.getElem?_eq_none (by omega)]
theorem row_sorted [Inhabited E] {w : World} {g cap n : Nat} {os : Array Obj} {es ts : List E} (hl : ts.length = es.length) (h : Rw 86 w (.slice (some ⟨g, 0, none⟩) es.length cap) es) :
    Rw 86 (sortWorldK E.cells 2 w g 0 n ts.toArray os) (.slice (some ⟨g, 0, none⟩) es.length cap) ts ∧ w.grownBy (sortWorldK E.cells 2 w g 0 n ts.toArray os) (some g) := by
  unfold sortWorldK putRowK
  rw [flat_cells]
  constructor
  · rcases h with ⟨h1, ⟨e, h0⟩ | ⟨g', c, cur, e, h0, hb, hn, hm, hs, ht⟩⟩
    · cases e
    · simp only [Value.slice.injEq, Option.some.injEq, Addr.mk.injEq] at e
      obtain ⟨⟨rfl, _⟩, _, rfl⟩ := e
      have hg : g < w.heap.size := (Array.getElem?_eq_some_iff.1 hb).1
      refine ⟨by rw [cellsE_len], .inr ⟨g, cap, putCells id 0 (cellsE ts).toArray cur, by rw [hl], h0, ?_, by omega, hm, by simp [putCells, hs], ?_⟩⟩
      · rw [heap_grow_old _ _ (by simpa using hg)]
        simp [putRow, mapBlock, Sort.ahead, Array.getElem?_modify, hb, onCells]
      · have := take_put cur (cellsE ts) (by rw [cellsE_len]; omega)
        rw [cellsE_len] at this
        exact this
  · refine ⟨rfl, rfl, rfl, by simp, fun k hk hne => ?_⟩
    rw [heap_grow_old _ _ (by simpa using hk)]
    have : g ≠ k := fun e => hne (by rw [e])
    simp [putRow, mapBlock, Sort.ahead, Array.getElem?_modify, this]
theorem agg52 : ∀ w, (isAgg 86).run Tryz.prog w = .ok true w := Tryz.isAgg86
theorem size52 : ∀ w, (Go.sizeOf 86).run Tryz.prog w = .ok 2 w := Tryz.sizeOf86
theorem cmp_lays [Inhabited E] (g size : Nat) (w : World) : CmpLays Tryz.prog 70 #[] E.cells 2 cfE g 0 size w := fun m os dk _ x y => (compare_any x y _).mono fun e w' ⟨he, hw⟩ => by subst hw; exact ⟨he, 0, _, by rw [alloc_eq_grow, alloc_eq_grow, grow_grow]; rfl⟩
/-- In order, as a list that was sorted is. -/
theorem sorted_up {ss : List E} : (ss.mergeSort fun x y => !ltOf cfE y x).Pairwise (fun x y => ¬ lt y x) := by
  refine (List.pairwise_mergeSort (le := fun x y => !ltOf cfE y x) (fun a b c h1 h2 => ?_) (fun a b => ?_) ss).imp fun {a b} h => ?_
  · simp only [lt_cf, Bool.not_eq_true'] at *
    refine ltb_f (nlt_trans (b := b) (fun h => ?_) (fun h => ?_))
    · rw [ltb_iff.2 h] at h2; cases h2
    · rw [ltb_iff.2 h] at h1; cases h1
  · simp only [lt_cf]
    cases h : ltb b a with
    | false => rfl
    | true => rw [ltb_f (lt_asymm (ltb_iff.1 h))]; rfl
  · simp only [lt_cf, Bool.not_eq_true'] at h
    intro hl
    rw [ltb_iff.2 hl] at h
    cases h
set_option maxHeartbeats 1000000 in
/-- slices.SortFunc by compare. -/
theorem sort_any (w : World) {g cap : Nat} {ss : List E} (h : Rw 86 w (.slice (some ⟨g, 0, none⟩) ss.length cap) ss) (hl : ss.length ≤ 100000) :
    Calls Tryz.prog 69 #[.slice (some ⟨g, 0, none⟩) ss.length cap, .func (.func 70) #[] #[]] w fun r w' => r = .returned (.tuple #[]) ∧ ∃ ts, Rw 86 w' (.slice (some ⟨g, 0, none⟩) ss.length cap) ts ∧ ts.Perm ss ∧ ts.Pairwise (fun x y => ¬ lt y x) ∧ w.grownBy w' (some g) := by
  haveI : Inhabited E := ⟨⟨⟨#[]⟩, 0⟩⟩
  have eg : ∀ args w, (callFunc 70 args).run Tryz.prog w = .ok (.enter 70 args) w := enters_of Tryz.func70 (by kernel_rfl) rfl
  have hgl : g < w.heap.size := by
    rcases h.2 with ⟨e, _⟩ | ⟨g', c, cur, e, _, hb, _⟩
    · cases e
    · simp only [Value.slice.injEq, Option.some.injEq, Addr.mk.injEq] at e
      rw [← e.1.1] at hb
      exact (Array.getElem?_eq_some_iff.1 hb).1
  have hc := AnyQ.slices_SortFunc_total Tryz.sortT 2 agg52 size52 E.cells (fun _ => rfl) (fun x v hv => by simp [E.cells] at hv; rcases hv with rfl | rfl <;> rfl) cfE swo_cf 70 #[] g 0 cap ss.toArray w eg (cmp_lays g _ w) (holds_row h) hgl (by simp; omega) tot_cf
  refine hc.mono ?_
  rintro r w' ⟨rfl, n, os, rfl⟩
  have hp := List.mergeSort_perm ss (fun x y => !ltOf cfE y x)
  obtain ⟨h1, h2⟩ := row_sorted (n := n) (os := os) (ts := ss.mergeSort fun x y => !ltOf cfE y x) hp.length_eq h
  exact ⟨rfl, _, h1, hp, sorted_up, h2⟩
theorem sort_none (w : World) (p : Option Addr) (cap : Nat) (fv : Value) : Calls Tryz.prog 69 #[.slice p 0 cap, fv] w fun r w' => r = .returned (.tuple #[]) ∧ w' = w := AnyF.slices_SortFunc_none Tryz.sortT p cap fv w
/-- Names once, in order: the one list in order. -/
theorem Srt.of_up {l L : List E} (hs : Srt L) (hn : l.Nodup) (hu : l.Pairwise (fun x y => ¬ lt y x)) (hm : ∀ x, x ∈ l ↔ x ∈ L) : l = L := by
  have h1 : l.Pairwise lt := by
    rw [List.nodup_iff_pairwise_ne] at hn
    refine (hn.and hu).imp fun {a b} ⟨h1, h2⟩ => ?_
    rcases lt_tri a b with h | h | h
    · exact h
    · exact absurd h h1
    · exact absurd h h2
  exact Srt.eq ⟨h1, fun x hx y hy e => hs.un x ((hm x).1 hx) y ((hm y).1 hy) e⟩ hs hm
end Go.Proofs.YtblnhcnfeagjhaaGreatDoor.W
