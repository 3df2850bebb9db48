/- Steps of regions that draw their order: the bytes of a text, bytes and fields appended. -/
import Derived.Test.YtmahpceokpajgaaDoorRrg
import Derived.Test.YtmahpceokpajgaaDoorTxt
import Derived.Test.YtmahpceokpajgaaDoorAde
import Derived.Test.YtmahpceokpajgaaDoorCRefd
import Derived.Lib.ConvBytes
namespace Go.Proofs.YtmahpceokpajgaaDoor
open Go.RowKit Go.IntWalk Go.Maps Go.Shelf
set_option linter.unusedVariables false
set_option linter.unusedSimpArgs false
theorem grown_bw (w : World) (k : K) : w.grownBy (Lib.bytesWorld w 5 (bt k)) none := ⟨rfl, rfl, rfl, by rw [Lib.bytesWorld_size]; omega, fun j hj _ => Lib.bytesWorld_at_old w 5 (bt k) j hj⟩
/-- '[]byte(s)', in whatever world. -/
theorem conv_any (k : K) (hk : k.length ≤ 1000000) : ∃ (cf : World → Nat) (wf : World → World), (∀ w : World, (convert 9 23 (.string (bt k))).run Tryd.prog w = .ok (.slice (some ⟨w.heap.size, 0, none⟩) k.length (cf w)) (wf w)) ∧
    (∀ (w : World) (n : Nat), w.heap.size = n → C.Bts (n + 1) (wf w) (.slice (some ⟨n, 0, none⟩) k.length (cf w)) (bz k)) ∧ (∀ w : World, w.grownBy (wf w) none) ∧ ∀ (w : World) (n : Nat), w.heap.size = n → (wf w).heap.size = n + 1 := by
  refine ⟨fun w => grownCap w (bt k).size 0 5, fun w => Lib.bytesWorld w 5 (bt k), fun w => ?_, fun w n hn => ?_, fun w => grown_bw w k, fun w n hn => by rw [Lib.bytesWorld_size, hn]⟩
  · have := Lib.run_convert_string_bytes (P := Tryd.prog) w 9 23 5 (bt k) Tryd.underlying9 Tryd.underlying23 Tryd.underlying5
    rw [bt_size] at this ⊢
    exact this
  · subst hn
    have hsz : (bt k).size = k.length := bt_size k
    refine ⟨.inr ⟨w.heap.size, 0, _, by rw [bz_len], by omega, by rw [bz_len, ← hsz]; exact grownCap_ge w _ 0 5, grownCap_le_maxLen w _ 0 5 (by unfold maxLen; omega), fun j hj => ?_⟩, bz_in k⟩
    rw [bz_len] at hj
    rw [Nat.zero_add, Lib.bytesWorld_cell w 5 (bt k) j (by omega)]
    have e1 : (bt k).data.toList = k := by unfold bt; simp
    rw [e1]
    simp [bz, List.getElem?_eq_getElem hj, List.getD]
/-- 'append(b, c...)', b bytes of one's own, at a step. -/
theorem step_app_b {ops : Array Oper} {o : Oper} {a : Act} {w : World} {K' : Act → World → Prop} {Q : Exit → Act → World → Prop} {E : Prop} (hgd : o.guard = none) (sl x : Operand) (hop : o.op = Op.call { callee := Callee.builtin Builtin.append, args := #[sl, x], argTypes := #[23, 23] })
    {l k : K} {v sv : Value} {base n₀ : Nat} (hs : a.eval sl = v) (hx : a.eval x = sv) (hown : w.ownsRow base 5 1 v l.length (Lib.byteCells l)) (hz : C.Bts n₀ w sv (bz k)) (hl : l.length + k.length ≤ 1000000) (hb : base ≤ w.heap.size)
    (hK : ∀ va vc w', w'.ownsRow base 5 1 (.slice va (l ++ k).length vc) (l ++ k).length (Lib.byteCells (l ++ k)) → w.grownBy w' v.ownBlock → K' (a.put o.dst (.slice va (l ++ k).length vc)) w') :
    if Region.wanted o (yielded ops a.tmps) = true then Oper.wp Tryd.prog o a w K' Q else E := by
  have hw : Region.wanted o (yielded ops a.tmps) = true := by simp [Region.wanted, hgd]
  rw [if_pos hw]
  refine C.wp_append_bytes sl x hop v sv hs hx base n₀ l.length (bz l) (bz k) (by rw [bz_cells]; exact hown) hz (by rw [bz_len]; omega) hb fun v' w' h1 h2 => ?_
  rw [bz_len] at h1
  have e1 : (bz l ++ bz k).map (Value.int .u8) = Lib.byteCells (l ++ k) := by rw [← bz_cells]; simp [bz]
  rw [e1] at h1
  have e2 : l.length + k.length = (l ++ k).length := by simp
  rw [e2] at h1
  obtain ⟨va, vc, rfl, _⟩ : ∃ va vc, v' = .slice va (l ++ k).length vc ∧ True := by
    rcases h1.2 with ⟨rfl, h0⟩ | ⟨g, cp, cur, rfl, _⟩
    · exact ⟨none, 0, by rw [h0], trivial⟩
    · exact ⟨_, _, rfl, trivial⟩
  exact hK va vc w' h1 h2
/-- 'append(l, f)', f a field just laid, at a step. -/
theorem step_app_f {ops : Array Oper} {o : Oper} {a : Act} {w : World} {K' : Act → World → Prop} {Q : Exit → Act → World → Prop} {E : Prop} (hgd : o.guard = none) (sl x : Operand) (hop : o.op = Op.call { callee := Callee.builtin Builtin.append, args := #[sl, x], argTypes := #[53, 53] })
    {v : Value} {fs : List C.Fd} {f : C.Fd} {s : Nat} (hs : a.eval sl = v) (hx : a.eval x = .slice (some ⟨w.heap.size, 0, none⟩) 1 1) (hown : w.ownsRow s 55 2 v fs.length (C.cellsL fs)) (hl : fs.length ≤ 4096) (hb : s ≤ w.heap.size)
    (hK : ∀ va vc w', w'.ownsRow s 55 2 (.slice va (fs.length + 1) vc) (fs ++ [f]).length (C.cellsL (fs ++ [f])) → (w.alloc (.cells #[.int .i64 f.tag, .slice f.a f.len f.cap] 55)).grownBy w' v.ownBlock → K' (a.put o.dst (.slice va (fs.length + 1) vc)) w') :
    if Region.wanted o (yielded ops a.tmps) = true then Oper.wp Tryd.prog o a (w.alloc (.cells #[.int .i64 f.tag, .slice f.a f.len f.cap] 55)) K' Q else E := by
  have hga := World.grownBy_alloc w (.cells #[.int .i64 f.tag, .slice f.a f.len f.cap] 55) none
  have n0 := cell_new w #[.int .i64 f.tag, .slice f.a f.len f.cap] 55 (i := 0) rfl
  have n1 := cell_new w #[.int .i64 f.tag, .slice f.a f.len f.cap] 55 (i := 1) rfl
  have hcells : ∀ j u, (C.cellsF f)[j]? = some u → (w.alloc (.cells #[.int .i64 f.tag, .slice f.a f.len f.cap] 55)).cell? ((⟨w.heap.size, 0, none⟩ : Addr).add j) = some u := fun j u hj => by
    rw [addr_add, Nat.zero_add]
    match j, hj with
    | 0, hj => simp [C.cellsF] at hj; subst hj; exact n0
    | 1, hj => simp [C.cellsF] at hj; subst hj; exact n1
    | j + 2, hj => simp [C.cellsF] at hj
  obtain ⟨v', w', hrun, h1, h2, _⟩ := C.run_append_field (w.alloc (.cells #[.int .i64 f.tag, .slice f.a f.len f.cap] 55)) s o.type v fs f (hown.kept hga (Classical.em _)) ⟨w.heap.size, 0, none⟩ hcells hl (by simp; omega)
  have hw : Region.wanted o (yielded ops a.tmps) = true := by simp [Region.wanted, hgd]
  rw [if_pos hw]
  unfold Oper.wp
  simp [execOp, hop, resolve, invoke, builtin, hs, hx, hrun, Result.andThen]
  obtain ⟨va, vc, rfl, _⟩ : ∃ va vc, v' = .slice va (fs.length + 1) vc ∧ True := by
    rcases h1.2 with ⟨rfl, h0⟩ | ⟨g, cp, cur, rfl, _⟩
    · exact ⟨none, 0, by rw [h0], trivial⟩
    · exact ⟨_, _, rfl, trivial⟩
  exact hK va vc w' (by rw [List.length_append]; exact h1) h2
theorem lit_own {base : Nat} (w : World) (c : UInt8) (hb : base ≤ w.heap.size) : (w.alloc (.cells #[.int .u8 c.toNat] 5)).ownsRow base 5 1 (.slice (some ⟨w.heap.size, 0, none⟩) 1 1) [c].length (Lib.byteCells [c]) :=
  ⟨rfl, .inr ⟨w.heap.size, 1, #[.int .u8 c.toNat], rfl, hb, World.alloc_heap_new _ _, by simp, by unfold maxLen; omega, rfl, rfl⟩⟩
theorem lit_own' {base : Nat} (w : World) {c : UInt8} {z : Int} (hz : (c.toNat : Int) = z) (hb : base ≤ w.heap.size) : (w.alloc (.cells #[.int .u8 z] 5)).ownsRow base 5 1 (.slice (some ⟨w.heap.size, 0, none⟩) 1 1) [c].length (Lib.byteCells [c]) := by subst hz; exact lit_own w c hb
theorem two_keep {w w' : World} {r : Option Nat} {b i j : Nat} {x y : Value} (hg : w.grownBy w' r) (hb : ∀ k, r = some k → b ≠ k) (h : w.cell? ⟨b, i, none⟩ = some x ∧ w.cell? ⟨b, j, none⟩ = some y) : w'.cell? ⟨b, i, none⟩ = some x ∧ w'.cell? ⟨b, j, none⟩ = some y := by
  have hl := World.block_lt_of_cell? w _ h.1
  have e := hg.block b hl (fun e => hb _ e.symm rfl)
  exact ⟨(World.cell?_of_block (w := w) (a := ⟨b, i, none⟩) e).trans h.1, (World.cell?_of_block (w := w) (a := ⟨b, j, none⟩) e).trans h.2⟩
end Go.Proofs.YtmahpceokpajgaaDoor
