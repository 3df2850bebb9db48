/- Facts for the walk of belfryref01.Decode: bytes that no list has; appends; what a round leaves. -/
import Derived.Test.YtmahpceokpajgaaDoorCRefe
namespace Go.Proofs.YtmahpceokpajgaaDoor.C
open Go.RowKit Go.Shelf Plain Go.IntWalk
set_option linter.unusedVariables false

theorem nodec {zs rest : List Int} {xs : List Fd} (h : zs = encL xs ++ rest) (hne : rest ≠ []) (hb : ¬ Begins rest ∨ xs.length = 200) : ∀ xs', okL xs' = true → zs ≠ encL xs' := by
  intro xs' ho heq
  simp only [okL, Bool.and_eq_true, decide_eq_true_eq, List.all_eq_true] at ho
  rw [heq] at h
  obtain ⟨qs, _, hr, hl, hq⟩ := encL_split h.symm
  cases qs with
  | nil => exact hne hr
  | cons q qs =>
    rcases hb with hb | hb
    · exact hb ⟨q, encL qs, ho.2 q (hq q (by simp)), hr⟩
    · simp at hl; omega

theorem begins_facts {zs : List Int} {k : Nat} (h : Begins (zs.drop k)) :
    1 ≤ zs[k]?.getD 0 ∧ 256 * zs[k + 1]?.getD 0 + zs[k + 2]?.getD 0 ≤ 2000 ∧ 256 * zs[k + 1]?.getD 0 + zs[k + 2]?.getD 0 ≤ (zs.length : Int) - k - 3 ∧ 3 ≤ (zs.length : Int) - k := by
  obtain ⟨x, r, hr, e⟩ := h
  have hx := rightB_true hr
  have g : ∀ j, (zs.drop k)[j]? = zs[k + j]? := fun j => List.getElem?_drop
  have e0 : zs[k]?.getD 0 = x.tag := by have := g 0; rw [e] at this; rw [Nat.add_zero] at this; rw [← this]; rfl
  have e1 : zs[k + 1]?.getD 0 = (x.zs.length : Int) / 256 := by have := g 1; rw [e] at this; rw [← this]; rfl
  have e2 : zs[k + 2]?.getD 0 = (x.zs.length : Int) % 256 := by have := g 2; rw [e] at this; rw [← this]; rfl
  have e4 := congrArg List.length e
  rw [List.length_append, List.length_drop] at e4
  simp only [encF, List.length_cons] at e4
  rw [e0, e1, e2]
  omega

theorem begins_eq {zs : List Int} {k N : Nat} (hN : 256 * zs[k + 1]?.getD 0 + zs[k + 2]?.getD 0 = (N : Int)) (h1 : 0 ≤ zs[k + 1]?.getD 0 ∧ zs[k + 1]?.getD 0 < 256) (h2 : 0 ≤ zs[k + 2]?.getD 0 ∧ zs[k + 2]?.getD 0 < 256) (hl : k + 3 + N ≤ zs.length) (a : Option Addr) (len cap : Nat) :
    zs.drop k = encF ⟨zs[k]?.getD 0, a, len, cap, (zs.take (k + 3 + N)).drop (k + 3)⟩ ++ zs.drop (k + 3 + N) := by
  have hdl : ((zs.take (k + 3 + N)).drop (k + 3)).length = N := by rw [List.length_drop, List.length_take]; omega
  have e1 : (N : Int) / 256 = zs[k + 1]?.getD 0 := by omega
  have e2 : (N : Int) % 256 = zs[k + 2]?.getD 0 := by omega
  have g : ∀ j, (zs.drop k)[j]? = zs[k + j]? := fun j => List.getElem?_drop
  have ht3 := take3 (zs := zs.drop k) (by rw [List.length_drop]; omega)
  simp only [encF, hdl, e1, e2, List.cons_append]
  rw [g 0, g 1, g 2, Nat.add_zero, List.drop_drop] at ht3
  conv => lhs; rw [ht3]
  congr 3
  conv => lhs; rw [← List.take_append_drop N (zs.drop (k + 3))]
  rw [List.drop_drop, List.drop_take, Nat.add_sub_cancel_left]

theorem cells_fresh (W : World) (x : Fd) : ∀ j u, (cellsF x)[j]? = some u → (W.alloc (.cells #[.int .i64 x.tag, .slice x.a x.len x.cap] 55)).cell? ((⟨W.heap.size, 0, none⟩ : Addr).add j) = some u := by
  intro j u hj
  have hh := heap_alloc_new W (.cells #[.int .i64 x.tag, .slice x.a x.len x.cap] 55)
  have hadd : (⟨W.heap.size, 0, none⟩ : Addr).add j = ⟨W.heap.size, 0 + j, none⟩ := by unfold Addr.add; split <;> simp_all
  rw [hadd, Joins.cell_of_block hh]
  match j, hj with
  | 0, hj => exact hj
  | 1, hj => exact hj
  | j + 2, hj => simp [cellsF] at hj
theorem wp_append_fd {o : Oper} {a : Act} {w : World} {K : Act → World → Prop} {Q : Exit → Act → World → Prop} (sl x : Operand) (hop : o.op = Op.call { callee := Callee.builtin Builtin.append, args := #[sl, x], argTypes := #[53, 53] })
    (v : Value) (ad : Addr) (hs : a.eval sl = v) (hx : a.eval x = .slice (some ad) 1 1) (s : Nat) (xs : List Fd) (y : Fd) (hown : w.ownsRow s 55 2 v xs.length (cellsL xs)) (hc : ∀ j u, (cellsF y)[j]? = some u → w.cell? (ad.add j) = some u) (hlen : xs.length ≤ 4096) (hb : s ≤ w.heap.size)
    (hK : ∀ v' w', w'.ownsRow s 55 2 v' (xs.length + 1) (cellsL (xs ++ [y])) → w.grownBy w' v.ownBlock → K (a.put o.dst v') w') : o.wp Tryd.prog a w K Q := by
  obtain ⟨v', w', hrun, h1, h2, h3⟩ := run_append_field w s o.type v xs y hown ad hc hlen hb
  unfold Oper.wp
  simp [execOp, hop, resolve, invoke, builtin, hs, hx, hrun, Result.andThen]
  exact hK v' w' h1 h2

/-- What a round leaves. -/
theorem ref_step {s : Nat} {W W2 w5 : World} {v : Value} {xs : List Fd} {tag : Int} {ds : List Int} {a2 : Option Addr} {c2 : Nat} {o : Obj}
    (hs : s ≤ W.heap.size) (hr : W.ownsRow s 55 2 v xs.length (cellsL xs)) (hok : ∀ x ∈ xs, okC s W x) (hds : ∀ z ∈ ds, 0 ≤ z ∧ z < 256) (htag : 0 ≤ tag ∧ tag < 256)
    (hB2 : Below W.heap.size W W2) (hrow2 : W2.ownsRow W.heap.size 5 1 (.slice a2 ds.length c2) ds.length (ds.map (Value.int .u8)))
    (hg5 : (W2.alloc o).grownBy w5 v.ownBlock) : (∀ x ∈ xs ++ [⟨tag, a2, ds.length, c2, ds⟩], okC s w5 x) ∧ Below s W w5 := by
  have hg2 := below_grown hB2
  have hr2 : W2.ownsRow s 55 2 v xs.length (cellsL xs) := hr.kept hg2 (by cases hv : v.ownBlock <;> simp)
  have hr3 := hr2.alloc o
  have hsz2 := hB2.size
  have hsz3 : (W2.alloc o).heap.size = W2.heap.size + 1 := by simp
  have hne5 : ∀ k, v.ownBlock = some k → ∀ c f, (W2.alloc o).heap[k]? ≠ some (.cells c 5 f) := by
    intro k e c f h
    rcases hr3.2 with ⟨rfl, _⟩ | ⟨g, cap, cur, rfl, _, hgb, _⟩
    · simp [Value.ownBlock] at e
    · obtain rfl : g = k := by simpa [Value.ownBlock] using e
      rw [hgb] at h
      simp at h
  have hk6 : ∀ x, okC s W2 x → okC s w5 x := fun x h => (h.kept (World.grownBy_alloc W2 o none) (fun _ e => by cases e)).kept hg5 hne5
  refine ⟨fun x hx => ?_, ((hB2.mono hs).alloc (by omega) o).grown hg5 (by omega) (fun k e => (hr3.lt k e).1)⟩
  rcases List.mem_append.1 hx with h | h
  · exact hk6 x ((hok x h).kept hg2 (fun _ e => by cases e))
  · obtain rfl : x = _ := by simpa using h
    exact hk6 _ ⟨⟨Joins.ownsRow_le hrow2 hs, hds⟩, by show (-9223372036854775808 : Int) ≤ tag; omega, by show tag ≤ (9223372036854775807 : Int); omega⟩
end Go.Proofs.YtmahpceokpajgaaDoor.C
