/- What codec.Decode returns, for every slice of bytes: the walk. -/
import Derived.Test.YtmahpceokpajgaaDoorCIter
import Derived.ArgAppend
namespace Go.Proofs.YtmahpceokpajgaaDoor.C
open Go.RowKit Go.Shelf Plain Go.IntWalk
set_option linter.unusedVariables false
attribute [local go_sem] Oper.semAt_some

set_option maxHeartbeats 1000000 in
theorem fields_in (n : Nat) (a : Option Addr) (len cap : Nat) (w : World) :
    CallsIn Fence.wide n Tryd.prog 41 #[.slice a len cap] w fun e w' => e = .returned (.func (.func 55) #[] #[.pointer (some ⟨w.heap.size, 0, none⟩)]) ∧ w' = w.alloc (.cells #[.slice a len cap] 23) := by
  refine callsIn_of_wp Tryd.func41 rfl trivial ?_ rfl
  simp only [Tryd.ntmps41, List.size_toArray, List.length_cons, List.length_nil, Nat.reduceAdd, Nat.reduceSub, Array.replicate_succ, Array.replicate_zero, List.push_toArray, List.append_toArray, List.nil_append, List.cons_append]
  gi_wp2
  go_ret
  exact ⟨rfl, rfl⟩

theorem fields_stops (n : Nat) (hn : 3 ≤ n) (Bs n₀ Bb : Nat) (W₀ : World) (hW₀ : n₀ = W₀.heap.size) (sv : Value) (zs : List Int) (hzl : zs.length ≤ 9223372036854775807) (w : World) (hBs : Bs < w.heap.size) (hn₀ : n₀ ≤ w.heap.size) (hB : Below n₀ W₀ w)
    (hc : w.cell? ⟨Bs, 0, none⟩ = some sv) (hz : Bts n₀ w sv zs) (hwf : WF Bb w) :
    SeqStopsK Fence.wide n Tryd.prog 55 #[.pointer (some ⟨Bs, 0, none⟩)] (fun x : FB n₀ W₀ => #[.agg #[.int .i64 x.1.1.tag, .slice x.1.1.a x.1.1.len x.1.1.cap], .bool x.1.2]) (Kept n₀ Bb) (fun ys => Part zs ys [] ∨ Ends zs ys) (fun pre => (∃ rest, Part zs pre rest) ∨ Ends zs pre) (zs.length + 1) w := fun l J Jx W hW hJ _ hY h0 => by
  have hc' := (hW.cell (p := ⟨Bs, 0, none⟩) hBs).trans hc
  have hsz := hW.size
  have hwf' := ((Kept.of_below (n₀ := n₀) (Bb := Bb) hW hn₀).2 hwf).1
  have hbb : Bb < W.heap.size := by obtain ⟨v, hv, _⟩ := hwf'; exact hv.lt
  exact fields1_in n hn l Bs n₀ Bb W₀ hW₀ zs hzl sv J Jx W (by omega) (hB.trans (hW.mono hn₀)) hJ hbb hY hc' (hz.below (hW.mono hn₀)) hwf' h0

/-- A field that the call itself made: its bytes lie in memory of its own. -/
def okC (s : Nat) (W : World) (x : Fd) : Prop := (W.ownsRow s 5 1 (.slice x.a x.len x.cap) x.zs.length (x.zs.map (Value.int .u8)) ∧ ∀ z ∈ x.zs, 0 ≤ z ∧ z < 256) ∧ -9223372036854775808 ≤ x.tag ∧ x.tag ≤ 9223372036854775807
theorem okC.kept {s : Nat} {W W' : World} {row : Option Nat} {x : Fd} (h : okC s W x) (hg : W.grownBy W' row) (hne : ∀ k, row = some k → ∀ c f, W.heap[k]? ≠ some (.cells c 5 f)) : okC s W' x := by
  refine ⟨⟨h.1.1.kept hg ?_, h.1.2⟩, h.2⟩
  rcases h.1.1.2 with ⟨e, _⟩ | ⟨g, c, cur, e, _, hgb, _⟩
  · rw [e]; exact .inl rfl
  · rw [e]
    refine .inr fun e' => ?_
    exact hne g (by simpa [Value.ownBlock] using e'.symm) _ _ hgb
theorem okC.ok {s : Nat} {W : World} {x : Fd} (h : okC s W x) : x.ok W.heap.size W := ⟨Bts.of_own h.1.1 h.1.2, h.2⟩
/-- The list that has been gathered. -/
def Lst {n₀ : Nat} {W₀ : World} (s Bb : Nat) (pre : List (FB n₀ W₀)) (W : World) : Prop :=
  ∃ v xs, Boxed W Bb 53 v ∧ W.ownsRow s 55 2 v xs.length (cellsL xs) ∧ (∀ x ∈ xs, okC s W x) ∧ xs.map said = (fsB pre).map said ∧ ∀ p ∈ pre, p.1.2 = true
theorem Lst.own {n₀ : Nat} {W₀ : World} (s Bb : Nat) : Own (fun (pre : List (FB n₀ W₀)) W => Lst s Bb pre W) := by
  rintro pre X Y row ⟨v, xs, hv, hr, hok, hs, hp⟩ hg hrow
  refine ⟨v, xs, hv.kept hg (fun e' => ?_), hr.kept hg ?_, fun x hx => (hok x hx).kept hg (fun k e c f hk => ?_), hs, hp⟩
  · obtain ⟨o, ho, hc⟩ := hrow Bb e'.symm
    rw [show X.heap[Bb]? = _ from hv] at ho; cases ho; cases hc
  · rcases hr.2 with ⟨rfl, _⟩ | ⟨g, cap, cur, rfl, _, hgb, _⟩
    · exact .inl rfl
    · refine .inr fun e' => ?_
      obtain ⟨o, ho, hc⟩ := hrow g (by simpa [Value.ownBlock] using e'.symm)
      rw [hgb] at ho; cases ho; cases hc
  · obtain ⟨o, ho, hc⟩ := hrow k e
    rw [hk] at ho; cases ho; cases hc
theorem Lst.wf {n₀ : Nat} {W₀ : World} {s Bb : Nat} {pre : List (FB n₀ W₀)} {W : World} (h : Lst s Bb pre W) : WF Bb W := by
  obtain ⟨v, xs, hv, hr, _⟩ := h
  exact ⟨v, hv, fun k e => (hr.lt k e).2⟩

/-- 'append(l, f)', l the call's own list: the list lies where it lay, or in new memory. -/
theorem run_append_field (w : World) (s ty : Nat) (v : Value) (xs : List Fd) (x : Fd) (hown : w.ownsRow s 55 2 v xs.length (cellsL xs)) (ad : Addr) (hc : ∀ j u, (cellsF x)[j]? = some u → w.cell? (ad.add j) = some u)
    (hlen : xs.length ≤ 4096) (hs : s ≤ w.heap.size) :
    ∃ v' w', (Builtin.append_ #[53, 53] ty #[v, .slice (some ad) 1 1]).run Tryd.prog w = .ok v' w' ∧ w'.ownsRow s 55 2 v' (xs.length + 1) (cellsL (xs ++ [x])) ∧ w.grownBy w' v.ownBlock ∧ (∀ k, v'.ownBlock = some k → v.ownBlock = some k ∨ w.heap.size ≤ k) := by
  obtain ⟨i0, hi, hz0, hz1, hz2⟩ := info_parts Tryd.info55
  have h1 : ∀ u ∈ cellsF x, u.oneCell' = true := by
    intro u hu
    simp only [cellsF, List.mem_cons, List.not_mem_nil, or_false] at hu
    rcases hu with rfl | rfl <;> rfl
  obtain ⟨v', w', hrun, hr, hg, _⟩ := run_append_own (P := Tryd.prog) w s 53 ty 55 i0 (.agg #[.int .i64 0, .slice none 0 0]) 2 32 Tryd.underlying53 hi hz0 hz1 hz2 rfl (by decide) v xs.length _ hown ad 1 1 (cellsF x) rfl hc h1 (by unfold maxLen; omega) (by omega) hs
  refine ⟨v', w', hrun, by rw [cellsL_append]; simpa [cellsL] using hr, hg, ?_⟩
  intro k hk
  rcases hown.2 with ⟨rfl, h0⟩ | ⟨g, cap, cur, rfl, _, hgb, hnc, hcm, hcs, htk⟩
  · obtain ⟨v2, w2, hrun2, hr2, _, _⟩ := run_append_own (P := Tryd.prog) w w.heap.size 53 ty 55 i0 (.agg #[.int .i64 0, .slice none 0 0]) 2 32 Tryd.underlying53 hi hz0 hz1 hz2 rfl (by decide) (.slice none 0 0) 0 [] (World.ownsRow_nil _ _ _ _) ad 1 1 (cellsF x) rfl hc h1 (by unfold maxLen; omega) (by omega) (Nat.le_refl _)
    rw [hrun] at hrun2
    cases hrun2
    exact .inr (hr2.lt k hk).1
  · by_cases hroom : xs.length + 1 ≤ cap
    · have := run_append_room (P := Tryd.prog) w 53 ty 55 i0 Tryd.underlying53 hi g xs.length cap cur hgb ad 1 1 (cellsF x) (by rw [hz1]; rfl) hc h1 hroom (by rw [hz1, hcs]; simp [cellsF]; omega)
      rw [hrun] at this
      cases this
      exact .inl hk
    · have holds : ∀ j u, (cellsL xs)[j]? = some u → w.cell? ((⟨g, 0, none⟩ : Addr).add j) = some u := hown.cells (g := g) rfl
      obtain ⟨v2, w2, hrun2, hr2, _⟩ := run_append_arg_grows (P := Tryd.prog) w 53 ty 55 i0 (.agg #[.int .i64 0, .slice none 0 0]) 2 32 Tryd.underlying53 hi hz0 hz1 hz2 rfl (by decide) ⟨g, 0, none⟩ xs.length cap (cellsL xs) (cellsL_length xs) holds ad 1 1 (cellsF x) rfl hc (by omega) (by unfold maxLen; omega) (by omega)
      rw [hrun] at hrun2
      cases hrun2
      exact .inr (hr2.lt k hk).1
end Go.Proofs.YtmahpceokpajgaaDoor.C
