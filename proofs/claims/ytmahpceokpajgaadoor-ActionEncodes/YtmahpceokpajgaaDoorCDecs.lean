/- One round of codec.Decode's loop: what it leaves. -/
import Derived.Test.YtmahpceokpajgaaDoorCDecw
namespace Go.Proofs.YtmahpceokpajgaaDoor.C
open Go.RowKit Go.Shelf Plain Go.IntWalk
set_option linter.unusedVariables false

theorem dec_step {n₀ : Nat} {W₀ : World} {s Bb : Nat} {pre : List (FB n₀ W₀)} {W W2 w5 : World} {v v' : Value} {xs : List Fd} {y : FB n₀ W₀} {a2 : Option Addr} {c2 : Nat} {o : Obj} (hsB : s ≤ Bb)
    (hs : s ≤ W.heap.size) (hv : Boxed W Bb 53 v) (hr : W.ownsRow s 55 2 v xs.length (cellsL xs)) (hok : ∀ x ∈ xs, okC s W x) (hsd : xs.map said = (fsB pre).map said) (hp : ∀ p ∈ pre, p.1.2 = true) (hy : y.1.2 = true)
    (hB2 : Below W.heap.size W W2) (hK2 : KeepsOthers W W2) (hrow2 : W2.ownsRow W.heap.size 5 1 (.slice a2 y.1.1.zs.length c2) y.1.1.zs.length (y.1.1.zs.map (Value.int .u8)))
    (hr5 : w5.ownsRow s 55 2 v' (xs.length + 1) (cellsL (xs ++ [⟨y.1.1.tag, a2, y.1.1.zs.length, c2, y.1.1.zs⟩]))) (hg5 : (W2.alloc o).grownBy w5 v.ownBlock) (hf5 : ∀ k, v'.ownBlock = some k → v.ownBlock = some k ∨ (W2.alloc o).heap.size ≤ k) :
    KeepsOthers W (w5.setCell ⟨Bb, 0, none⟩ v') ∧ Kept s Bb W (w5.setCell ⟨Bb, 0, none⟩ v') ∧ Lst s Bb (pre ++ [y]) (w5.setCell ⟨Bb, 0, none⟩ v') ∧
    (∀ B t u, Boxed W B t u → B ≠ Bb → t ≠ 55 → Boxed (w5.setCell ⟨Bb, 0, none⟩ v') B t u) ∧ Boxed w5 Bb 53 v := by
  have hg2 := below_grown hB2
  have hv2 : Boxed W2 Bb 53 v := boxed_below hv hB2
  have hr2 : W2.ownsRow s 55 2 v xs.length (cellsL xs) := hr.kept hg2 (by cases hv : v.ownBlock <;> simp)
  have hv3 := hv2.alloc o
  have hr3 := hr2.alloc o
  have hsz2 := hB2.size
  have hsz3 : (W2.alloc o).heap.size = W2.heap.size + 1 := by simp
  have hrowk : ∀ k, v.ownBlock = some k → ∃ cur, (W2.alloc o).heap[k]? = some (.cells cur 55 (0, 0)) := by
    intro k e
    rcases hr3.2 with ⟨rfl, _⟩ | ⟨g, cap, cur, rfl, _, hgb, _⟩
    · simp [Value.ownBlock] at e
    · obtain rfl : g = k := by simpa [Value.ownBlock] using e
      exact ⟨cur, hgb⟩
  have hne5 : ∀ k, v.ownBlock = some k → ∀ c f, (W2.alloc o).heap[k]? ≠ some (.cells c 5 f) := by
    intro k e c f h
    obtain ⟨cur, hc⟩ := hrowk k e
    rw [hc] at h
    simp at h
  have hv5 : Boxed w5 Bb 53 v := hv3.kept hg5 (hv3.not_row (by decide) hr3)
  have hv6 : Boxed (w5.setCell ⟨Bb, 0, none⟩ v') Bb 53 v' := hv5.set v'
  have hr6 : (w5.setCell ⟨Bb, 0, none⟩ v').ownsRow s 55 2 v' (xs.length + 1) (cellsL (xs ++ [⟨y.1.1.tag, a2, y.1.1.zs.length, c2, y.1.1.zs⟩])) :=
    hr5.kept (grownBy_setCell' w5 Bb v') (.inr (hv5.not_row (by decide) hr5).symm)
  have hneB : ∀ k, (some Bb : Option Nat) = some k → ∀ c f, w5.heap[k]? ≠ some (.cells c 5 f) := by
    intro k e c f h
    cases e
    rw [show w5.heap[Bb]? = _ from hv5] at h
    simp at h
  have hk6 : ∀ x, okC s W2 x → okC s (w5.setCell ⟨Bb, 0, none⟩ v') x := fun x h =>
    ((h.kept (World.grownBy_alloc W2 o none) (fun _ e => by cases e)).kept hg5 hne5).kept (grownBy_setCell' w5 Bb v') hneB
  have hle : W.heap.size ≤ (w5.setCell ⟨Bb, 0, none⟩ v').heap.size := by
    have := hg5.size
    have := (grownBy_setCell' w5 Bb v').size
    omega
  have keep : ∀ (k : Nat) (c : Array Value) (t : TypeId) (f : Nat × Nat), W.heap[k]? = some (.cells c t f) → k ≠ Bb → v.ownBlock ≠ some k → (w5.setCell ⟨Bb, 0, none⟩ v').heap[k]? = some (.cells c t f) := by
    intro k c t f hk hkb hkv
    have h2 := (hB2.block k (Array.getElem?_eq_some_iff.1 hk).1).trans hk
    have h3 := alloc_old (o' := o) h2
    have h5 := (hg5.block k (Array.getElem?_eq_some_iff.1 h3).1 (fun e => hkv e.symm)).trans h3
    exact (Below.heap_setCell _ _ _ _ hkb).trans h5
  refine ⟨?_, ⟨?_, fun _ => ⟨⟨v', hv6, fun k e => (hr6.lt k e).2⟩, fun k c t f hk hc ho => ⟨?_, ?_⟩⟩⟩, ⟨v', xs ++ [⟨y.1.1.tag, a2, y.1.1.zs.length, c2, y.1.1.zs⟩], hv6, by rw [List.length_append]; exact hr6, ?_, ?_, ?_⟩, ?_, hv5⟩
  · refine (hK2.trans ((KeepsOthers.alloc W2 o).trans (KeepsOthers.of_grownBy hg5 fun j ob ej hj => ?_))).trans (KeepsOthers.setCell _ _ _)
    obtain ⟨cur, hc⟩ := hrowk j ej
    rw [hc] at hj; cases hj; rfl
  · refine (((hB2.mono hs).alloc (by omega) o).grown hg5 (by omega) (fun k e => (hr3.lt k e).1)).setCell (p := ⟨Bb, 0, none⟩) hsB v'
  · exact keep k c t f hc (by omega) (fun e => ho ⟨v, hv, e⟩)
  · rintro ⟨u, hu, e⟩
    have := boxed_unique hv6 hu
    subst this
    have hkl := (Array.getElem?_eq_some_iff.1 hc).1
    rcases hf5 k e with h | h
    · exact ho ⟨v, hv, h⟩
    · omega
  · intro x hx
    rcases List.mem_append.1 hx with h | h
    · exact hk6 x ((hok x h).kept hg2 (fun _ e => by cases e))
    · obtain rfl : x = _ := by simpa using h
      refine hk6 _ ⟨⟨Joins.ownsRow_le hrow2 hs, ?_⟩, ?_⟩
      · exact ((y.2 hy).1.1).2
      · exact (y.2 hy).1.2
  · rw [fsB_snoc, List.map_append, List.map_append, hsd]; rfl
  · intro p hp'
    rcases List.mem_append.1 hp' with h | h
    · exact hp p h
    · obtain rfl : p = y := by simpa using h
      exact hy
  · intro B t u hb hne ht
    refine keep B _ _ _ hb hne (fun e => ?_)
    obtain ⟨cur, hc⟩ := hrowk B e
    have h3 := alloc_old (o' := o) ((hB2.block B hb.lt).trans hb)
    rw [hc] at h3
    simp at h3
    exact ht h3.2.symm
end Go.Proofs.YtmahpceokpajgaaDoor.C
