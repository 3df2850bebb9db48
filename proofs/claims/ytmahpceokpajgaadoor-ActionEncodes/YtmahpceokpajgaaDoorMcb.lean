/- A region that leaves its order open, inside a round of a range over a function: it is walked as outside of one. -/
import Derived.Test.YtmahpceokpajgaaDoorCCfin
import Derived.BigRegion
namespace Go.Proofs.YtmahpceokpajgaaDoor.C
open Go.RowKit
set_option linter.unusedVariables false

def noDefer (o : Oper) : Bool := match o.op with | .defer _ => false | _ => true
theorem noDefer_ne {o : Oper} (h : noDefer o = true) : ∀ c, o.op ≠ .defer c := by
  intro c e
  unfold noDefer at h
  rw [e] at h
  cases h

section
variable {P : Program} {ops : Array Oper} {Q : Exit → Act → World → Prop} {l n : Nat}

theorem rowsIn_round {m : Nat} {row : String} {args : Array Value} {w : World} {R : Value → World → Prop} (h : Rows P row args w R) : RowsIn (Fence.wide.inRound l) m P row args w R :=
  fun c cs _ => let ⟨v, w', r, s⟩ := h c cs; ⟨v, w', r, stepsIn_wide.2 s⟩

theorem oper_round {o : Oper} {a : Act} {w : World} {K : Act → World → Prop} (hd : noDefer o = true) (h : o.wp P a w K Q) : o.wpIn (Fence.wide.inRound l) n P a w K Q := by
  refine ⟨fun _ _ => trivial, ?_⟩
  show o.uponIn (Fence.wide.inRound l) n P a K Q ((Oper.semAt (some l) a.eval o).run P w)
  rw [Oper.semAt_some l a.eval o (noDefer_ne hd)]
  unfold Oper.wp at h
  generalize (execOp a.eval o).run P w = r at *
  cases r with
  | ok x w' =>
    cases x <;> simp only [Oper.upon] at h <;> simp only [Oper.uponIn]
    case value => exact h
    case skip => exact h
    case defer => exact h
    case enter => exact ⟨(fun e => by cases e), CallsIn.inRound l (callsIn_wide.2 h)⟩
    case row => exact ⟨(fun e => by cases e), rowsIn_round h⟩
  | halt x w' => cases x <;> simp only [Oper.upon] at h <;> simp only [Oper.uponIn] <;> exact h

theorem wpAny_round {md : Region.Mode} (hd : ∀ (i : Nat) (o : Oper), ops[i]? = some o → noDefer o = true) (hlo : ¬ LetsOut Q) : ∀ (fuel : Nat) (listed : Array Bool) (a : Act) (w : World), wpAny P md ops Q fuel listed a w → wpAnyIn (Fence.wide.inRound l) n P md ops Q fuel listed a w
  | 0, _, _, _, h => h
  | fuel + 1, listed, a, w, h => by
    refine ⟨h.1, fun i hi => ?_⟩
    have h2 := h.2 i hi
    unfold wpOp at h2
    unfold wpOpIn
    cases ho : ops[i]? with
    | none => rw [ho] at h2; exact wpAny_round hd hlo fuel _ _ _ h2
    | some o =>
      simp only [ho] at h2
      dsimp only
      split
      · next hw =>
        simp only [hw, if_true] at h2
        rcases h2 with h2 | ⟨_, h2⟩
        · exact Oper.wpIn_mono (fun a w => wpAny_round hd hlo fuel _ a w) (oper_round (hd i o ho) h2)
        · exact absurd h2 hlo
      · next hw =>
        simp only [hw] at h2
        exact ⟨fun _ _ => trivial, wpAny_round hd hlo fuel _ _ _ h2⟩

theorem region_round {id : Nat} {a : Act} {w : World} (hm : P.follows .mixedOrders = true) (hd : ops.all noDefer = true) (hlo : ¬ LetsOut Q)
    (h : wpAny P .any ops Q ops.size (Array.replicate ops.size false) a { w with drawn := w.drawn + 1 }) : (Code.region id ops true).wpIn (Fence.wide.inRound l) n P Q a w :=
  wpIn_region_any hm (wpAny_round (fun i o ho => by
    have := Array.all_eq_true'.1 hd o (Array.mem_of_getElem? ho)
    exact this) hlo _ _ _ _ h)
end
end Go.Proofs.YtmahpceokpajgaaDoor.C

/- What codec.first returns, for every slice of bytes. -/
namespace Go.Proofs.YtmahpceokpajgaaDoor.C
open Go.RowKit Go.Shelf Plain Go.IntWalk
set_option linter.unusedVariables false

theorem cell_kept_alloc {W : World} {a : Addr} {v : Value} (h : W.cell? a = some v) (o : Obj) : (W.alloc o).cell? a = some v := Lib.cell?_alloc_marked o h

set_option maxRecDepth 100000 in
set_option maxHeartbeats 1000000 in
theorem first_short (a : Option Addr) (len cap : Nat) (h : (len : Int) < 3) (w : World) :
    Calls Tryd.prog 56 #[.slice a len cap] w fun e w' => e = .returned (.tuple #[.agg #[.int .i64 0, .slice none 0 0], .bool false]) ∧ Below w.heap.size w w' := by
  go_enter Tryd.func56, Tryd.ntmps56
  go_wp2
  exact bodyPost_ret (v := .tuple #[.agg #[.int .i64 0, .slice none 0 0], .bool false]) (by simp [results, Tryd.results56, go_sem]) rfl ⟨rfl, (Below.refl _ _).alloc (Nat.le_refl _) _⟩

theorem shl_or64 (v d : Int) (h0 : 0 ≤ v) (h1 : v < 256) (h2 : 0 ≤ d) (h3 : d < 256) : bits .or .i64 (v * 256) d = 256 * v + d := by
  obtain ⟨a, rfl⟩ := Int.eq_ofNat_of_zero_le h0
  obtain ⟨b, rfl⟩ := Int.eq_ofNat_of_zero_le h2
  have e := Nat.shiftLeft_add_eq_or_of_lt (b := b) (i := 8) (by omega) a
  rw [Nat.shiftLeft_eq] at e
  have e1 : BitVec.ofInt 64 ((a : Int) * 256) = BitVec.ofNat 64 (a * 256) := by
    rw [show ((a : Int) * 256) = ((a * 256 : Nat) : Int) from by omega, BitVec.ofInt_natCast]
  have e2 : BitVec.ofInt 64 (b : Int) = BitVec.ofNat 64 b := BitVec.ofInt_natCast ..
  have e3 : ((BitVec.ofNat 64 (a * 256) ||| BitVec.ofNat 64 b).toNat : Nat) = a * 256 + b := by
    rw [BitVec.toNat_or, BitVec.toNat_ofNat, BitVec.toNat_ofNat, Nat.mod_eq_of_lt (by omega), Nat.mod_eq_of_lt (by omega), show a * 256 = a * 2 ^ 8 from rfl, ← e]
  unfold bits
  show IntKind.wrap .i64 ((BitVec.ofInt 64 ((a : Int) * 256) ||| BitVec.ofInt 64 (b : Int)).toNat : Int) = _
  rw [e1, e2, e3, IntKind.wrap_i64]
  omega

/-- The blocks of a call that laid one block for its result, and then read. -/
theorem lat_block {w : World} {o : Obj} (p : Lat (w.alloc o)) : p.W.heap[w.heap.size]? = some o ∧ Below w.heap.size w p.W ∧ w.heap.size < p.W.heap.size := by
  have h1 := p.h.block w.heap.size (by simp)
  have h2 := p.h.size
  rw [World.size_alloc] at h2
  exact ⟨h1.trans (heap_alloc_new w o), ((Below.refl _ w).alloc (Nat.le_refl _) o).trans (p.h.mono (by simp)), by omega⟩

theorem after_right {w W1 W3 : World} {c d c' d' : Value} {o : Obj} (hW : W3 = ((W1.alloc (.cells #[c, d] 55)).drew).alloc o) (bR : W1.heap[w.heap.size]? = some (.cells #[c', d'] 55 (0, 0))) (hB : Below w.heap.size w W1) (hs : w.heap.size < W1.heap.size) :
    W3.heap[w.heap.size]? = some (.cells #[c', d'] 55 (0, 0)) ∧ W3.heap[W1.heap.size]? = some (.cells #[c, d] 55 (0, 0)) ∧ Below w.heap.size w W3 := by
  subst hW
  have e1 : ((W1.alloc (.cells #[c, d] 55)).drew).heap[w.heap.size]? = some (.cells #[c', d'] 55 (0, 0)) := alloc_old bR
  have e2 : ((W1.alloc (.cells #[c, d] 55)).drew).heap[W1.heap.size]? = some (.cells #[c, d] 55 (0, 0)) := heap_alloc_new W1 _
  exact ⟨alloc_old e1, alloc_old e2, ((hB.alloc hB.size _).drew).alloc (by show w.heap.size ≤ (W1.alloc _).heap.size; simp; omega) _⟩

set_option maxRecDepth 100000 in
set_option maxHeartbeats 1000000 in
theorem first_big (b off len cap N : Nat) (z0 z1 z2 : Int) (sa : Option Addr) (sc : Nat) (h : decide ((len : Int) < 3) = false) (hm : len ≤ 9223372036854775807) (h0 : 0 ≤ z0 ∧ z0 < 256) (h1 : 0 ≤ z1 ∧ z1 < 256) (h2 : 0 ≤ z2 ∧ z2 < 256) (w : World)
    (c0 : w.cell? ⟨b, off, none⟩ = some (.int .u8 z0)) (c1 : w.cell? ⟨b, off + 1, none⟩ = some (.int .u8 z1)) (c2 : w.cell? ⟨b, off + 2, none⟩ = some (.int .u8 z2)) (hN : bits BinOp.or IntKind.i64 (z1 * 256) z2 = (N : Int)) (hN2 : N ≤ 65535) (hlc : len ≤ cap) (hcm : cap ≤ 9223372036854775807)
    (hbig : (len : Int) - 3 < (N : Int)) :
    Calls Tryd.prog 56 #[.slice (some ⟨b, off, none⟩) len cap] w fun e w' => ((((N : Int) ≤ (len : Int) - 3 ∧ rightB z0 N = true) ∧ e = .returned (.tuple #[.agg #[.int .i64 z0, .slice sa N sc], .bool true])) ∨ (¬ ((N : Int) ≤ (len : Int) - 3 ∧ rightB z0 N = true) ∧ e = .returned (.tuple #[.agg #[.int .i64 0, .slice none 0 0], .bool false]))) ∧ Below w.heap.size w w' := by
  obtain ⟨h01, h02⟩ := h0
  obtain ⟨h11, h12⟩ := h1
  obtain ⟨h21, h22⟩ := h2
  have g0 : (3 : Int) ≤ (len : Int) := by simp at h; omega
  have g1 : (1 : Int) < (len : Int) := by omega
  have g2 : (2 : Int) < (len : Int) := by omega
  have g3 : 0 < len := by omega
  have g4 : (0 : Int) < (len : Int) := by omega
  go_enter Tryd.func56, Tryd.ntmps56
  go_wp2_with fail
  haveI := lat_nonempty (w.alloc (.cells #[.int .i64 0, .slice none 0 0] 55))
  have k1 := lat_cell (cell_kept_alloc c1 (.cells #[.int .i64 0, .slice none 0 0] 55))
  have k2 := lat_cell (cell_kept_alloc c2 (.cells #[.int .i64 0, .slice none 0 0] 55))
  have k0 := lat_cell (cell_kept_alloc c0 (.cells #[.int .i64 0, .slice none 0 0] 55))
  refine wp_region_lat (by kernel_rfl) (by kernel_rfl) ?_
  repeat (go_big_quiet_step (fail))
  refine wpQuiet_nil ?_
  intro _ hw'
  obtain ⟨p, hw''⟩ := hw'
  subst hw''
  obtain ⟨bR, hB1, hs1⟩ := lat_block p
  have k0' := k0 p
  clear k1 k2 k0
  generalize p.W = W1 at *
  have r0 := cell_two_0 bR
  have r1 := cell_two_1 bR
  have f0 := Joins.unfrozen_of_block bR 0
  have f1 := Joins.unfrozen_of_block bR 1
  go_wp2_with fail
  exact bodyPost_ret (v := .tuple #[.agg #[.int .i64 0, .slice none 0 0], .bool false]) (by simp [results, Tryd.results56, go_sem, r0, r1]) rfl ⟨.inr ⟨by omega, rfl⟩, (hB1.setCell (p := ⟨w.heap.size, 0, none⟩) (Nat.le_refl _) _).setCell (p := ⟨w.heap.size, 1, none⟩) (Nat.le_refl _) _⟩

set_option maxRecDepth 100000 in
set_option maxHeartbeats 1000000 in
theorem first_core (b off len cap N : Nat) (z0 z1 z2 : Int) (h : decide ((len : Int) < 3) = false) (hm : len ≤ 9223372036854775807) (h0 : 0 ≤ z0 ∧ z0 < 256) (h1 : 0 ≤ z1 ∧ z1 < 256) (h2 : 0 ≤ z2 ∧ z2 < 256) (w : World)
    (c0 : w.cell? ⟨b, off, none⟩ = some (.int .u8 z0)) (c1 : w.cell? ⟨b, off + 1, none⟩ = some (.int .u8 z1)) (c2 : w.cell? ⟨b, off + 2, none⟩ = some (.int .u8 z2)) (hN : bits BinOp.or IntKind.i64 (z1 * 256) z2 = (N : Int)) (hN2 : N ≤ 65535) (hlc : len ≤ cap) (hcm : cap ≤ 9223372036854775807)
    (sa : Option Addr) (sc : Nat) (hsl : (N : Int) ≤ (len : Int) - 3 → ∀ W, (Instr.slice 23 (.slice (some ⟨b, off, none⟩) len cap) (some (.int .i64 3)) (some (.int .i64 (3 + (N : Int)))) none).run Tryd.prog W = .ok (.slice sa N sc) W)
    (hcase : ((len : Int) - 3 < (N : Int)) ∨ (decide ((len : Int) - 3 < (N : Int)) = false)) :
    Calls Tryd.prog 56 #[.slice (some ⟨b, off, none⟩) len cap] w fun e w' => ((((N : Int) ≤ (len : Int) - 3 ∧ rightB z0 N = true) ∧ e = .returned (.tuple #[.agg #[.int .i64 z0, .slice sa N sc], .bool true])) ∨ (¬ ((N : Int) ≤ (len : Int) - 3 ∧ rightB z0 N = true) ∧ e = .returned (.tuple #[.agg #[.int .i64 0, .slice none 0 0], .bool false]))) ∧ Below w.heap.size w w' := by
  obtain ⟨h01, h02⟩ := h0
  obtain ⟨h11, h12⟩ := h1
  obtain ⟨h21, h22⟩ := h2
  have g0 : (3 : Int) ≤ (len : Int) := by simp at h; omega
  have g1 : (1 : Int) < (len : Int) := by omega
  have g2 : (2 : Int) < (len : Int) := by omega
  have g3 : 0 < len := by omega
  have g4 : (0 : Int) < (len : Int) := by omega
  rcases hcase with hbig | hsm
  · clear hsl
    exact first_big b off len cap N z0 z1 z2 sa sc h hm ⟨h01, h02⟩ ⟨h11, h12⟩ ⟨h21, h22⟩ w c0 c1 c2 hN hN2 hlc hcm hbig
  have hle : (N : Int) ≤ (len : Int) - 3 := by simp at hsm; omega
  replace hsl := hsl hle
  · go_enter Tryd.func56, Tryd.ntmps56
    go_wp2_with fail
    haveI := lat_nonempty (w.alloc (.cells #[.int .i64 0, .slice none 0 0] 55))
    have k1 := lat_cell (cell_kept_alloc c1 (.cells #[.int .i64 0, .slice none 0 0] 55))
    have k2 := lat_cell (cell_kept_alloc c2 (.cells #[.int .i64 0, .slice none 0 0] 55))
    have k0 := lat_cell (cell_kept_alloc c0 (.cells #[.int .i64 0, .slice none 0 0] 55))
    refine wp_region_lat (by kernel_rfl) (by kernel_rfl) ?_
    repeat (go_big_quiet_step (fail))
    refine wpQuiet_nil ?_
    intro _ hw'
    obtain ⟨p, hw''⟩ := hw'
    subst hw''
    obtain ⟨bR, hB1, hs1⟩ := lat_block p
    have k0' := k0 p
    clear k1 k2 k0
    generalize p.W = W1 at *
    have r0 := cell_two_0 bR
    have r1 := cell_two_1 bR
    have f0 := Joins.unfrozen_of_block bR 0
    have f1 := Joins.unfrozen_of_block bR 1
    have k0'' := cell_kept_alloc k0' (.cells #[.int .i64 0, .slice none 0 0] 55)
    go_wp2_with fail
    go_region
    cases hr : rightB z0 N with
    | false =>
      go_wp2_with (go_at_call 40; go_must (refine (callsIn_wide.1 (right_in Fence.wide 0 trivial rfl z0 sa N sc (by omega) _)).mono ?_); rintro e W3 ⟨rfl, hW3⟩; rw [hr]; obtain ⟨q1, q2, q3⟩ := after_right hW3 bR hB1 hs1; clear hW3; have r30 := cell_two_0 q1; have r31 := cell_two_1 q1; have f30 := Joins.unfrozen_of_block q1 0; have f31 := Joins.unfrozen_of_block q1 1; have r32 := cell_two_0 q2; have r33 := cell_two_1 q2)
      exact bodyPost_ret (v := .tuple #[.agg #[.int .i64 0, .slice none 0 0], .bool false]) (by simp [results, Tryd.results56, go_sem, r30, r31]) rfl ⟨.inr ⟨by rw [hr]; simp, rfl⟩, (q3.setCell (p := ⟨w.heap.size, 0, none⟩) (Nat.le_refl _) _).setCell (p := ⟨w.heap.size, 1, none⟩) (Nat.le_refl _) _⟩
    | true =>
      go_wp2_with (go_at_call 40; go_must (refine (callsIn_wide.1 (right_in Fence.wide 0 trivial rfl z0 sa N sc (by omega) _)).mono ?_); rintro e W3 ⟨rfl, hW3⟩; rw [hr]; obtain ⟨q1, q2, q3⟩ := after_right hW3 bR hB1 hs1; clear hW3; have r30 := cell_two_0 q1; have r31 := cell_two_1 q1; have f30 := Joins.unfrozen_of_block q1 0; have f31 := Joins.unfrozen_of_block q1 1; have r32 := cell_two_0 q2; have r33 := cell_two_1 q2)
      exact bodyPost_ret (v := .tuple #[.agg #[.int .i64 z0, .slice sa N sc], .bool true]) (by simp [results, Tryd.results56, go_sem, r30, r31]) rfl ⟨.inl ⟨⟨hle, hr⟩, rfl⟩, (q3.setCell (p := ⟨w.heap.size, 0, none⟩) (Nat.le_refl _) _).setCell (p := ⟨w.heap.size, 1, none⟩) (Nat.le_refl _) _⟩
end Go.Proofs.YtmahpceokpajgaaDoor.C

/- Bytes taken apart: which bytes begin with a field's, that a list's bytes tell the list, and codec.first at every slice of bytes. -/
namespace Go.Proofs.YtmahpceokpajgaaDoor.C
open Go.RowKit Go.Shelf Plain Go.IntWalk
set_option linter.unusedVariables false

theorem encL_cons' (x : Fd) (xs : List Fd) : encL (x :: xs) = encF x ++ encL xs := rfl
theorem encF_ne (x : Fd) (r : List Int) : encF x ++ r ≠ [] := by simp [encF]
/-- A field's bytes tell it, whatever comes behind. -/
theorem encF_split {x y : Fd} {r s : List Int} (h : encF x ++ r = encF y ++ s) : said x = said y ∧ r = s := by
  simp only [encF, List.cons_append, List.cons.injEq] at h
  obtain ⟨h1, h2, h3, h4⟩ := h
  have hl : x.zs.length = y.zs.length := by omega
  obtain ⟨h5, h6⟩ := List.append_inj h4 hl
  exact ⟨Prod.ext h1 h5, h6⟩
/-- A list's bytes, with others behind, are a list's: then these are the rest of it. -/
theorem encL_split : ∀ {ps xs : List Fd} {r : List Int}, encL ps ++ r = encL xs → ∃ qs, ps.map said ++ qs.map said = xs.map said ∧ r = encL qs ∧ xs.length = ps.length + qs.length ∧ ∀ q ∈ qs, q ∈ xs
  | [], xs, r, h => ⟨xs, rfl, by simpa [encL] using h, by simp, fun _ h => h⟩
  | p :: ps, [], r, h => by
    rw [encL_cons', List.append_assoc] at h
    exact absurd h (encF_ne _ _)
  | p :: ps, x :: xs, r, h => by
    rw [encL_cons', encL_cons', List.append_assoc] at h
    obtain ⟨h1, h2⟩ := encF_split h
    obtain ⟨qs, e1, e2, e3, e4⟩ := encL_split h2
    exact ⟨qs, by simp [h1, e1], e2, by simp; omega, fun q hq => List.mem_cons_of_mem _ (e4 q hq)⟩
theorem encL_inj {xs ys : List Fd} (h : encL xs = encL ys) : xs.map said = ys.map said := by
  obtain ⟨qs, e1, e2, _, _⟩ := encL_split (ps := xs) (xs := ys) (r := []) (by simpa using h)
  cases qs with
  | nil => simpa using e1
  | cons q qs => rw [encL_cons'] at e2; exact absurd e2.symm (encF_ne _ _)
theorem right_said {x y : Fd} (h : said x = said y) : x.right = y.right := by
  have h1 : x.tag = y.tag := congrArg Prod.fst h
  have h2 : x.zs = y.zs := congrArg Prod.snd h
  unfold Fd.right; rw [h1, h2]
theorem encF_said {x y : Fd} (h : said x = said y) : encF x = encF y := by
  have h1 : x.tag = y.tag := congrArg Prod.fst h
  have h2 : x.zs = y.zs := congrArg Prod.snd h
  unfold encF; rw [h1, h2]
theorem encL_said : ∀ {xs ys : List Fd}, xs.map said = ys.map said → encL xs = encL ys
  | [], [], _ => rfl
  | [], _ :: _, h => by simp at h
  | _ :: _, [], h => by simp at h
  | x :: xs, y :: ys, h => by
    simp only [List.map_cons, List.cons.injEq] at h
    rw [encL_cons', encL_cons', encF_said h.1, encL_said h.2]
theorem okL_said {xs ys : List Fd} (h : xs.map said = ys.map said) : okL xs = okL ys := by
  have hl : xs.length = ys.length := by simpa using congrArg List.length h
  have ha : ∀ {xs ys : List Fd}, xs.map said = ys.map said → xs.all Fd.right = ys.all Fd.right := by
    intro xs
    induction xs with
    | nil => intro ys h; cases ys with | nil => rfl | cons => simp at h
    | cons x xs ih =>
      intro ys h
      cases ys with
      | nil => simp at h
      | cons y ys =>
        simp only [List.map_cons, List.cons.injEq] at h
        rw [List.all_cons, List.all_cons, right_said h.1, ih h.2]
  unfold okL; rw [hl, ha h]

/-- 's[lo:hi]' and 's[lo:]' of bytes. -/
theorem slice_cut {n₀ : Nat} {w : World} {b off len cap : Nat} {zs : List Int} (hz : Bts n₀ w (.slice (some ⟨b, off, none⟩) len cap) zs) (lo hi : Nat) (hlo : lo ≤ hi) (hhi : hi ≤ len) :
    ∃ sa, (∀ W, (Instr.slice 23 (.slice (some ⟨b, off, none⟩) len cap) (some (.int .i64 (lo : Int))) (some (.int .i64 (hi : Int))) none).run Tryd.prog W = .ok (.slice sa (hi - lo) (cap - lo)) W) ∧
      (∀ W, hi = len → (Instr.slice 23 (.slice (some ⟨b, off, none⟩) len cap) (some (.int .i64 (lo : Int))) none none).run Tryd.prog W = .ok (.slice sa (hi - lo) (cap - lo)) W) ∧ Bts n₀ w (.slice sa (hi - lo) (cap - lo)) ((zs.take hi).drop lo) := by
  have ht' : Tryd.prog.underlying 23 = some (.slice (Tryd.prog.elem 23)) := by simp [Program.elem, Tryd.underlying23]
  have he : Tryd.prog.elem 23 = 5 := by simp [Program.elem, Tryd.underlying23]
  have hzs : ∀ W, (Go.sizeOf 5).run Tryd.prog W = .ok 1 W := by
    obtain ⟨i0, hi, hz0, hz1, hz2⟩ := info_parts Tryd.info5
    intro W; simp [sizeOf, typeInfo, hi, hz1]
  have hl := hz.len
  have hcap : len ≤ cap ∨ len = 0 := by
    obtain ⟨⟨e | ⟨ad, c, e⟩, h⟩ | ⟨b', off', c, e, _, h1, h2, _⟩, _⟩ := hz
    · simp at e
    · simp at e; omega
    · simp at e; omega
  have hbts : ∀ sa, (sa = (if cap = lo then some ⟨b, off, none⟩ else some ⟨b, off + lo, none⟩)) → Bts n₀ w (.slice sa (hi - lo) (cap - lo)) ((zs.take hi).drop lo) := by
    intro sa hsa
    refine ⟨?_, fun z hz' => hz.2 z (List.mem_of_mem_take (List.mem_of_mem_drop hz'))⟩
    have hln : ((zs.take hi).drop lo).length = hi - lo := by rw [List.length_drop, List.length_take]; omega
    by_cases h0 : hi = lo
    · have e0 : (zs.take hi).drop lo = [] := List.eq_nil_of_length_eq_zero (by omega)
      rw [e0]
      refine .inl ⟨.inr ?_, rfl⟩
      rw [hsa]
      split
      · exact ⟨_, _, by rw [show hi - lo = 0 by omega]⟩
      · exact ⟨_, _, by rw [show hi - lo = 0 by omega]⟩
    · obtain ⟨⟨e | ⟨ad, c, e⟩, h⟩ | ⟨b', off', c, e, hb, h1, h2, hc⟩, _⟩ := hz
      · simp at e
      · simp at e; omega
      · simp only [Value.slice.injEq, Option.some.injEq, Addr.mk.injEq] at e
        obtain ⟨⟨rfl, rfl, _⟩, e2, rfl⟩ := e
        rw [if_neg (by omega)] at hsa
        refine .inr ⟨b, off + lo, cap - lo, by rw [hsa, hln], hb, by rw [hln]; omega, by omega, fun j hj => ?_⟩
        rw [hln] at hj
        have := hc (lo + j) (by omega)
        rw [← Nat.add_assoc] at this
        rw [this, List.getElem?_drop, List.getElem?_take, if_pos (by omega)]
  refine ⟨if cap = lo then some ⟨b, off, none⟩ else some ⟨b, off + lo, none⟩, ?_, ?_, hbts _ rfl⟩
  · intro W
    rw [run_slice_lh W 23 _ _ _ ht' .i64 .i64 _ _ (by omega) (by omega) (by omega), he, hzs]
    simp only [Result.andThen, sliced, Int.toNat_natCast, Nat.mul_one]
    by_cases h0 : cap = lo
    · simp [h0]
    · simp [h0, Addr.add]
  · intro W hh
    subst hh
    rw [run_slice_l W 23 _ _ _ ht' .i64 _ (by omega) (by omega), he, hzs]
    simp only [Result.andThen, sliced, Int.toNat_natCast, Nat.mul_one]
    by_cases h0 : cap = lo
    · simp [h0]
    · simp [h0, Addr.add]
end Go.Proofs.YtmahpceokpajgaaDoor.C
