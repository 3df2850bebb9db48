/- What a disk's Append does. -/
import Derived.Test.YtgblekdllcngnaaOps
namespace Go.Proofs.Ytgblekdllcngnaa
open Go.RowKit Go.IntWalk Go.Maps
set_option linter.unusedVariables false

theorem wpList_append_lim (w : World) {ops : Array Oper} {rest : List Oper} {o : Oper} {a : Act} {Q : Exit → Act → World → Prop}
    (hg : o.guard = none) (s x : Operand) (hop : o.op = Op.call { callee := Callee.builtin Builtin.append, args := #[s, x], argTypes := #[32, 32] })
    (N : Nat → Prop) (ao : Option Addr) (zs : List Int) (sv : Value) (xs : List Int) (hs : a.eval s = .slice ao zs.length zs.length) (hx : a.eval x = sv) (h : Btx N w (.slice ao zs.length zs.length) zs) (hb : Bts w.heap.size w sv xs) (hl : zs.length + xs.length ≤ 100000)
    (hK : ∀ a' L cap' w', Btx (Or_ N w) w' (.slice a' L cap') (zs ++ xs) → w.grownBy w' none → wpList Try.prog ops Q rest (a.put o.dst (.slice a' L cap')) w') :
    wpList Try.prog ops Q (o :: rest) a w := by
  refine wpList_plain hg fun K hK' => ?_
  obtain ⟨a', cap', w', hrun, h1, h2⟩ := run_append_lim w o.type h hb hl
  unfold Oper.wp
  generalize (zs ++ xs).length = L at hrun h1
  simp [execOp, hop, resolve, invoke, builtin, hs, hx, hrun, Result.andThen]
  exact hK' _ _ (hK a' L cap' w' h1 h2)

theorem Btx.low {N : Nat → Prop} {W : World} {v : Value} {zs : List Int} (h : Btx N W v zs) : Btx (fun i => N i ∧ i < W.heap.size) W v zs := by
  refine ⟨h.1, fun b off len cap e hz => ⟨h.2 b off len cap e hz, ?_⟩⟩
  obtain ⟨⟨_, rfl⟩ | ⟨b', off', c, e', hb, _⟩, _⟩ := h.1
  · exact absurd rfl hz
  · rw [e] at e'
    simp only [Value.slice.injEq, Option.some.injEq, Addr.mk.injEq] at e'
    rw [e'.1.1]
    exact hb
theorem Dsk.low {w : World} {sb bm : Nat} {N : Nat → Prop} {l : List Sg} {root : List Int} (h : Dsk w sb bm N l root) : Dsk w sb bm (fun i => N i ∧ i < w.heap.size) l root := by
  obtain ⟨rv, c1, hr⟩ := h.c1
  exact ⟨h.c0, ⟨rv, c1, hr.low⟩, h.f1, fun e => h.nsb e.1, fun e => h.nbm e.1, h.mp, h.up, h.len, fun x hx => by
    obtain ⟨a1, a2, a3, a4, a5, a6⟩ := h.seg x hx
    exact ⟨a1, a2, a3, a4, a5, a6.low⟩, h.rl⟩
set_option maxRecDepth 100000 in
set_option maxHeartbeats 2000000 in
/-- disk.Append, where it has room. -/
theorem append_core (w : World) {sb bm : Nat} {N : Nat → Prop} {l : List Sg} {root : List Int} (h : Dsk w sb bm N l root) (HN : Hid (∀ i, N i → i < w.heap.size)) (n : Int) (ao : Option Addr) (cap : Nat) (xb : List Int) (xs : Int) (there : Bool)
    (hlk : (Instr.lookup 51 (.map (some bm)) (.int .i64 n) true).run Try.prog w = .ok (.tuple #[.agg #[.slice ao xb.length cap, .int .i64 xs], .bool there]) w) (hb : Btx N w (.slice ao xb.length cap) xb)
    (v : Value) (zs : List Int) (hz : Bts w.heap.size w v zs) (hn0 : 0 ≤ n) (hn1 : n < 9223372036854775808) (hs0 : 0 ≤ xs) (hs1 : xs ≤ xb.length) (hl : xb.length + zs.length ≤ 1024) (hth : there = true ∧ (getS n l).isSome = true ∨ there = false ∧ l.length < 128) :
    Calls Try.prog 52 #[.pointer (some ⟨sb, 0, none⟩), .int .i64 n, v] w fun r w' => r = .returned (.int .i64 0) ∧ (∃ v', Dsk w' sb bm (Or_ N w) (putS ⟨n, v', xb ++ zs, xs⟩ l) root) ∧ w.grownBy w' (some bm) := by
  obtain ⟨az, capz, rfl⟩ := hz.shape
  have c0 := h.c0
  have hlen := h.len
  have hmap := fun w' (hg : w.grownBy w' none) ty => (h.grown0 hg).mp.len ty
  have hd1 : decide (n < 0) = false := by simp; omega
  have hd2 : decide ((zs.length : Int) > 1024 - xb.length) = false := by simp; omega
  have hwr : IntKind.i64.wrap (1024 - (xb.length : Int)) = 1024 - xb.length := by rw [IntKind.wrap_i64]; omega
  have hg1 := World.grownBy_alloc w (.cells #[.slice ao xb.length cap, .int .i64 xs] 67) none
  have c0a := (h.grown0 hg1).c0
  obtain ⟨a', hlim, hb1⟩ := run_lim (hb.grown hg1 (by simp))
  have HN1 : Hid (some sb ≠ some bm) := fun e => h.ne (by cases e; rfl)
  have HN2 : Hid (some w.heap.size ≠ some bm) := fun e => by have := h.bml; cases e; omega
  have hsbw : Hid (sb ≠ w.heap.size) := fun e => by have := h.sbl; omega
  have hul := h.up
  have key : ∀ (a2 : Option Addr) (L cap2 : Nat) (w2 : World), Btx (Or_ N (w.alloc (.cells #[.slice ao xb.length cap, .int .i64 xs] 67))) w2 (.slice a2 L cap2) (xb ++ zs) → (w.alloc (.cells #[.slice ao xb.length cap, .int .i64 xs] 67)).grownBy w2 none →
      ∃ w3, (Instr.mapUpdate 51 (.map (some bm)) (.int .i64 n) (.agg #[.slice a2 L cap2, .int .i64 xs])).run Try.prog (w2.setCell ⟨w.heap.size, 0, none⟩ (.slice a2 L cap2)).drew = .ok () w3 ∧ (∃ v', Dsk w3 sb bm (Or_ N w) (putS ⟨n, v', xb ++ zs, xs⟩ l) root) ∧ w.grownBy w3 (some bm) := by
    intro a2 L cap2 w2 hb2 hg2
    have hg3 := grown_setCell w2 ⟨w.heap.size, 0, none⟩ (.slice a2 L cap2)
    have hno : ∀ k, some w.heap.size = some k → ¬ Or_ N (w.alloc (.cells #[.slice ao xb.length cap, .int .i64 xs] 67)) k := fun k hk e => by
      cases hk
      rcases e with e | e
      · have := HN.out _ e
        omega
      · simp at e
        omega
    have hsb := h.sbl
    have hbm := h.bml
    have h3 := (((h.grown0 hg1).wide.grown0 hg2).grown hg3 (fun e => hsbw.out (by simpa using e)) (fun e => HN2.out (by simpa using e.symm)) hno).grown0 (grown_drew _)
    obtain ⟨w3, hrun, hmp, ht⟩ := h3.mp.store hul (by unfold maxLen; omega) ⟨n, .slice a2 L cap2, xb ++ zs, xs⟩ (by dsimp only; omega) (by dsimp only; omega)
    have h4 := h3.turn_put ht.grown _ hmp (hth.elim (fun e => .inl e.2) (fun e => .inr e.2)) ⟨hn0, hn1, by simp; omega, hs0, by simp; omega, (hb2.grown hg3 hno).grown (grown_drew _) (by simp)⟩
    have hN' : ∀ k, Or_ N (w.alloc (.cells #[.slice ao xb.length cap, .int .i64 xs] 67)) k → Or_ N w k := fun k hk => hk.elim .inl (fun e => .inr (by simp at e; omega))
    exact ⟨w3, hrun, ⟨_, h4.mono hN' h.wide.nsb h.wide.nbm⟩, grown_same (grown_none (grown_new (grown_none hg1 hg2) hg3 (Nat.le_refl _)) (grown_drew _)) ht.grown⟩
  rcases hth with ⟨rfl, hth⟩ | ⟨rfl, hth⟩
  · go_enter Try.func52, Try.ntmps52
    go_wp2_with (at_builtin; go_must (refine wpList_append_lim _ rfl (.tmp 49) (.tmp 50) rfl N a' xb _ zs rfl rfl hb1 (hz.grown0 hg1) (by omega) ?_); intro a2 L cap2 w2 hb2 hg2; have e0 : w2.cell? ⟨w.heap.size, 0, none⟩ = some (.slice ao xb.length cap) := grown_cell hg2 (by simp); have e1 : w2.cell? ⟨w.heap.size, 1, none⟩ = some (.int .i64 xs) := grown_cell hg2 (by simp); have e2 : w2.frozen? ⟨w.heap.size, 0, none⟩ = false := (grown_frozen hg2 (by simp)).trans (by simp); have e3 : w2.cell? ⟨sb, 0, none⟩ = some (.map (some bm)) := grown_cell hg2 c0a; obtain ⟨w3, hrun, hd3, hg3⟩ := key a2 L cap2 w2 hb2 hg2)
    have hsbw' := hsbw.out
    go_region
    all_goals
      go_wp2
      go_ret
      exact ⟨rfl, hd3, hg3⟩
  · have hd4 : decide ((l.length : Int) ≥ 128) = false := by simp; omega
    have hml := (h.grown0 hg1).mp.len 3
    go_enter Try.func52, Try.ntmps52
    go_wp2_with (at_builtin; go_must (refine wpList_append_lim _ rfl (.tmp 49) (.tmp 50) rfl N a' xb _ zs rfl rfl hb1 (hz.grown0 hg1) (by omega) ?_); intro a2 L cap2 w2 hb2 hg2; have e0 : w2.cell? ⟨w.heap.size, 0, none⟩ = some (.slice ao xb.length cap) := grown_cell hg2 (by simp); have e1 : w2.cell? ⟨w.heap.size, 1, none⟩ = some (.int .i64 xs) := grown_cell hg2 (by simp); have e2 : w2.frozen? ⟨w.heap.size, 0, none⟩ = false := (grown_frozen hg2 (by simp)).trans (by simp); have e3 : w2.cell? ⟨sb, 0, none⟩ = some (.map (some bm)) := grown_cell hg2 c0a; obtain ⟨w3, hrun, hd3, hg3⟩ := key a2 L cap2 w2 hb2 hg2)
    have hsbw' := hsbw.out
    go_region
    all_goals
      go_wp2
      go_ret
      exact ⟨rfl, hd3, hg3⟩
set_option maxRecDepth 100000 in
set_option maxHeartbeats 1000000 in
theorem append_neg (w : World) {sb bm : Nat} {N : Nat → Prop} {l : List Sg} {root : List Int} (h : Dsk w sb bm N l root) (n : Int) (a : Option Addr) (len cap : Nat) (ao : Option Addr) (lo capo : Nat) (xs : Int) (there : Bool)
    (hlk : (Instr.lookup 51 (.map (some bm)) (.int .i64 n) true).run Try.prog w = .ok (.tuple #[.agg #[.slice ao lo capo, .int .i64 xs], .bool there]) w) (hd : decide (n < 0) = true) :
    Calls Try.prog 52 #[.pointer (some ⟨sb, 0, none⟩), .int .i64 n, .slice a len cap] w fun r w' => r = .returned (.int .i64 31) ∧ w.grownBy w' none := by
  have c0 := h.c0
  go_enter Try.func52, Try.ntmps52
  go_wp2
  go_ret
  exact ⟨rfl, World.grownBy_alloc w _ none⟩
set_option maxRecDepth 100000 in
set_option maxHeartbeats 1000000 in
theorem append_long (w : World) {sb bm : Nat} {N : Nat → Prop} {l : List Sg} {root : List Int} (h : Dsk w sb bm N l root) (n : Int) (a : Option Addr) (len cap : Nat) (ao : Option Addr) (lo capo : Nat) (xs : Int) (there : Bool)
    (hlk : (Instr.lookup 51 (.map (some bm)) (.int .i64 n) true).run Try.prog w = .ok (.tuple #[.agg #[.slice ao lo capo, .int .i64 xs], .bool there]) w) (hd : decide (n < 0) = false)
    (hwr : IntKind.i64.wrap (1024 - (lo : Int)) = 1024 - lo) (hd2 : decide ((len : Int) > 1024 - lo) = true) :
    Calls Try.prog 52 #[.pointer (some ⟨sb, 0, none⟩), .int .i64 n, .slice a len cap] w fun r w' => r = .returned (.int .i64 31) ∧ w.grownBy w' none := by
  have c0 := h.c0
  go_enter Try.func52, Try.ntmps52
  go_wp2
  go_ret
  exact ⟨rfl, World.grownBy_alloc w _ none⟩
set_option maxRecDepth 100000 in
set_option maxHeartbeats 1000000 in
theorem append_full (w : World) {sb bm : Nat} {N : Nat → Prop} {l : List Sg} {root : List Int} (h : Dsk w sb bm N l root) (n : Int) (a : Option Addr) (len cap : Nat)
    (hlk : (Instr.lookup 51 (.map (some bm)) (.int .i64 n) true).run Try.prog w = .ok (.tuple #[.agg #[.slice none 0 0, .int .i64 0], .bool false]) w) (hd : decide (n < 0) = false)
    (hd2 : decide ((len : Int) > 1024) = false) (hd3 : decide ((l.length : Int) ≥ 128) = true) :
    Calls Try.prog 52 #[.pointer (some ⟨sb, 0, none⟩), .int .i64 n, .slice a len cap] w fun r w' => r = .returned (.int .i64 31) ∧ w.grownBy w' none := by
  have c0 := h.c0
  have hg1 := World.grownBy_alloc w (.cells #[.slice none 0 0, .int .i64 0] 67) none
  have c0a := (h.grown0 hg1).c0
  have hml := (h.grown0 hg1).mp.len 3
  go_enter Try.func52, Try.ntmps52
  go_wp2
  go_ret
  exact ⟨rfl, World.grownBy_alloc w _ none⟩
set_option maxRecDepth 100000 in
set_option maxHeartbeats 1000000 in
theorem append_nil (w : World) (n : Int) (v : Value) : Calls Try.prog 52 #[.pointer none, .int .i64 n, v] w fun r w' => r = .returned (.int .i64 1) ∧ w = w' := by
  go_enter Try.func52, Try.ntmps52
  go_wp2
  go_ret
  exact ⟨rfl, rfl⟩
/-- The segment that is there, or begins. -/
def orS (n : Int) (l : List Sg) : Sg := (getS n l).getD ⟨n, .slice none 0 0, [], 0⟩
/-- Is there room for k bytes more in segment n? -/
def fits (n : Int) (k : Nat) (l : List Sg) : Bool := decide (0 ≤ n) && decide ((orS n l).b.length + k ≤ 1024) && ((getS n l).isSome || decide (l.length < 128))
/-- disk.Append. -/
theorem append_any (w : World) {sb bm : Nat} {N : Nat → Prop} {l : List Sg} {root : List Int} (h : Dsk w sb bm N l root) (n : Int) (h0 : -9223372036854775808 ≤ n) (h1 : n < 9223372036854775808) (v : Value) (zs : List Int) (hz : Bts w.heap.size w v zs) :
    Calls Try.prog 52 #[.pointer (some ⟨sb, 0, none⟩), .int .i64 n, v] w fun r w' =>
      (fits n zs.length l = true ∧ r = .returned (.int .i64 0) ∧ (∃ v', Dsk w' sb bm (Or_ N w) (putS ⟨n, v', (orS n l).b ++ zs, (orS n l).s⟩ l) root) ∧ w.grownBy w' (some bm)) ∨
      (fits n zs.length l = false ∧ r = .returned (.int .i64 31) ∧ w.grownBy w' none) := by
  obtain ⟨a, cap, rfl⟩ := hz.shape
  have hlow := h.low
  have up : ∀ {l' : List Sg} {w' : World}, (∃ v', Dsk w' sb bm (Or_ (fun i => N i ∧ i < w.heap.size) w) (putS ⟨n, v', (orS n l).b ++ zs, (orS n l).s⟩ l) root) → ∃ v', Dsk w' sb bm (Or_ N w) (putS ⟨n, v', (orS n l).b ++ zs, (orS n l).s⟩ l) root := by
    rintro l' w' ⟨v', hd⟩
    exact ⟨v', hd.mono (fun k hk => hk.elim (fun e => .inl e.1) .inr) h.wide.nsb h.wide.nbm⟩
  cases hx : getS n l with
  | some x =>
    obtain ⟨hm, hn⟩ := getS_mem hx
    obtain ⟨a1, a2, a3, a4, a5, a6⟩ := h.seg x hm
    have hlk := h.mp.lookup h0 h1 hx
    have ho : orS n l = x := by simp [orS, hx]
    rw [ho] at up ⊢
    obtain ⟨xn, xv, xb, xs⟩ := x
    dsimp only at hn hlk a1 a2 a3 a4 a5 a6 up ⊢
    obtain ⟨a', cap', rfl⟩ := a6.1.shape
    have h0' : 0 ≤ n := by omega
    have hf : fits n zs.length l = decide (xb.length + zs.length ≤ 1024) := by simp [fits, ho, hx, h0']
    rw [hf]
    by_cases hr : xb.length + zs.length ≤ 1024
    · refine (append_core w hlow (fun i hi => hi.2) n a' cap' xb xs true hlk a6.low _ zs hz (by omega) h1 a4 a5 hr (.inl ⟨rfl, by rw [hx]; rfl⟩)).mono ?_
      rintro r w' ⟨hr1, hr2, hr3⟩
      exact .inl ⟨by simpa using hr, hr1, up (l' := l) hr2, hr3⟩
    · refine (append_long w h n a zs.length cap a' xb.length cap' xs true hlk (by simp; omega) (by rw [IntKind.wrap_i64]; omega) (by simp; omega)).mono ?_
      rintro r w' ⟨hr1, hr2⟩
      exact .inr ⟨by simpa using hr, hr1, hr2⟩
  | none =>
    have hlk := h.mp.lookup_none h0 h1 hx
    have ho : orS n l = ⟨n, .slice none 0 0, [], 0⟩ := by simp [orS, hx]
    rw [ho] at up ⊢
    dsimp only at up ⊢
    have hf : fits n zs.length l = (decide (0 ≤ n) && decide (zs.length ≤ 1024) && decide (l.length < 128)) := by simp [fits, ho, hx]
    rw [hf]
    by_cases hn : 0 ≤ n
    · by_cases hr : zs.length ≤ 1024
      · by_cases hl : l.length < 128
        · refine (append_core w hlow (fun i hi => hi.2) n none 0 [] 0 false hlk (Btx.nil _ _) _ zs hz hn h1 (by omega) (by simp) (by simpa using hr) (.inr ⟨rfl, hl⟩)).mono ?_
          rintro r w' ⟨hr1, hr2, hr3⟩
          exact .inl ⟨by simp [hn, hr, hl], hr1, up (l' := l) hr2, hr3⟩
        · refine (append_full w h n a zs.length cap hlk (by simp; omega) (by simp; omega) (by simp; omega)).mono ?_
          rintro r w' ⟨hr1, hr2⟩
          exact .inr ⟨by simp [hl], hr1, hr2⟩
      · refine (append_long w h n a zs.length cap none 0 0 0 false hlk (by simp; omega) (by rw [IntKind.wrap_i64]; omega) (by simp; omega)).mono ?_
        rintro r w' ⟨hr1, hr2⟩
        exact .inr ⟨by simp [hr], hr1, hr2⟩
    · refine (append_neg w h n a zs.length cap none 0 0 0 false hlk (by simp; omega)).mono ?_
      rintro r w' ⟨hr1, hr2⟩
      exact .inr ⟨by simp [hn], hr1, hr2⟩
end Go.Proofs.Ytgblekdllcngnaa
