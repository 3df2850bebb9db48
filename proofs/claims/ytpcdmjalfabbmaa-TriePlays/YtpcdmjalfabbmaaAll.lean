/- node.all; how many kids there are; an entry appended. -/
import Derived.Test.YtpcdmjalfabbmaaTel
import Derived.Test.YtpcdmjalfabbmaaTop
import Derived.Test.YtpcdmjalfabbmaaLow
namespace Go.Proofs.Ytpcdmjalfabbmaa
open Go.RowKit Go.Shelf Go.IntWalk Go.Maps
set_option linter.unusedVariables false
attribute [local go_sem] Oper.semAt_some
theorem kids_le {P : List K} {L : List E} (hc : Cl P) (hkey : ∀ p, (gt L p).isSome = true → p ∈ P) (hC : Cn P (fun k => (gt L k).isSome = true)) {p : K} {ks : List UInt8} (hn : ks.Nodup) (hk : ∀ c ∈ ks, ∃ q, Kid P p q ∧ p ++ [c] <+: q) : ks.length ≤ L.length := by
  have hT := hC.tg hkey
  have : ks ⊆ L.map (fun x => x.k.getD p.length 0) := fun c hcm => by
    obtain ⟨q, h1, h2⟩ := hk c hcm
    obtain ⟨a, ha, h3⟩ := hT.ext _ (Nat.le_refl _) h1.lo h1.ne0
    obtain ⟨x, hx, rfl⟩ := gt_has.1 ha
    refine List.mem_map.2 ⟨x, hx, ?_⟩
    obtain ⟨t, ht⟩ := h2.trans h3
    rw [← ht]
    simp
  have := hn.length_le_of_subset this
  simpa using this
theorem Try.info46 : (Try.prog.info? 46).map (fun i => (i.zero, i.size, i.bytes)) = some (some (.agg #[.string ByteArray.empty, .string ByteArray.empty]), 2, 32) := by kernel_rfl
theorem run_append_e (w : World) (base : Nat) (v : Value) (es : List E) (e : E) (hrow : w.ownsRow base 46 2 v es.length (cellsE es)) (hl : es.length ≤ 1000000) (hb : base ≤ w.heap.size) (ty : TypeId) :
    ∃ v' w', (Builtin.append_ #[41, 41] ty #[v, .slice (some ⟨w.heap.size, 0, none⟩) 1 1]).run Try.prog (w.alloc (.cells #[.string (bt e.k), .string e.v] 46)) = .ok v' w' ∧ w'.ownsRow base 46 2 v' (es.length + 1) (cellsE (es ++ [e])) ∧ (w.alloc (.cells #[.string (bt e.k), .string e.v] 46)).grownBy w' v.ownBlock := by
  obtain ⟨i0, hi, hz0, hz1, hz2⟩ := info_parts Try.info46
  obtain ⟨v', w', hrun, hr, hg, _⟩ := run_append_own (P := Try.prog) (w.alloc (.cells #[.string (bt e.k), .string e.v] 46)) base 41 ty 46 i0 (.agg #[.string ByteArray.empty, .string ByteArray.empty]) 2 32 Try.underlying41 hi hz0 hz1 hz2 rfl (by decide) v es.length _ (hrow.alloc (.cells #[.string (bt e.k), .string e.v] 46)) ⟨w.heap.size, 0, none⟩ 1 1 e.cells rfl
    (fun j u hj => by
      match j, hj with
      | 0, hj => simp [E.cells] at hj; subst hj; rw [addr_add]; simp
      | 1, hj => simp [E.cells] at hj; subst hj; rw [addr_add]; simp
      | j + 2, hj => simp [E.cells] at hj) (fun u hu => by
        simp only [E.cells, List.mem_cons, List.not_mem_nil, or_false] at hu
        rcases hu with rfl | rfl <;> rfl) (by unfold maxLen; omega) (by omega) (by simp; omega)
  refine ⟨v', w', hrun, ?_, hg⟩
  have : cellsE (es ++ [e]) = cellsE es ++ e.cells := by rw [cellsE_app]; simp [cellsE]
  rw [this]
  exact hr
/-- node.all: the node and its key are boxed. -/
theorem all_in (n : Nat) (a : Option Addr) (k : K) (w : World) :
    CallsIn Fence.wide n Try.prog 34 #[.pointer a, .string (bt k)] w fun e w' => e = .returned (.func (.func 43) #[] #[ptr w.heap.size, ptr (w.heap.size + 1)]) ∧ w' = (w.alloc (.cells #[.pointer a] 56)).alloc (.cells #[.string (bt k)] 9) := by
  refine callsIn_of_wp Try.func34 rfl trivial ?_ rfl
  simp only [Try.ntmps34, List.size_toArray, List.length_cons, List.length_nil, Nat.reduceAdd, Nat.reduceSub, Array.replicate_succ, Array.replicate_zero, List.push_toArray, List.append_toArray, List.nil_append, List.cons_append]
  gi_wp2
  go_ret
  exact ⟨rfl, rfl⟩
set_option maxHeartbeats 1000000 in
theorem all_stops {N : Nat} (hp : Pdq N) (hN : N ≤ 256) (n Bn Bk n₀ : Nat) {P : List K} {nb mb : K → Nat} {lab : K → K} {L : List E} (hs : Srt L) (hf : ∀ j, Fp P nb mb j → j < n₀)
    (hkn : ∀ p ∈ P, ∀ ks : List UInt8, ks.Nodup → (∀ c ∈ ks, ∃ q, Kid P p q ∧ p ++ [c] <+: q) → ks.length ≤ N) {p : K} (hpP : p ∈ P) (w : World) (hBn : Bn < w.heap.size) (hBk : Bk < w.heap.size) (hn₀ : n₀ ≤ w.heap.size)
    (hcn : w.cell? ⟨Bn, 0, none⟩ = some (ptr (nb p))) (hck : w.cell? ⟨Bk, 0, none⟩ = some (.string (bt p))) (hT : Tm w P nb mb lab (gt L)) :
    SeqStopsK Fence.wide n Try.prog 43 #[ptr Bn, ptr Bk] (fun x : E => #[.agg #[.string (bt x.k), .string x.v]]) (Kb n₀) (fun ys => ys = sub L p) (fun pre => pre <+: sub L p) (sub L p).length w := fun l J Jx W hW hJ _ hY h0 => by
  have hsz := hW.size
  have c1 := (hW.cell (p := ⟨Bn, 0, none⟩) hBn).trans hcn
  have c2 := (hW.cell (p := ⟨Bk, 0, none⟩) hBk).trans hck
  have hT' : Tm W P nb mb lab (gt L) := hT.kept fun j hj => hW.block j (by have := hf j hj; omega)
  have ht := tell_in hp hN l n₀ (sub L p).length hs hf J Jx (fun s X Y hx hg => hJ s X Y none hx hg (fun r e => by cases e)) hkn (fun m pre x W hj hl => yield_any rfl m (hY pre x W hj hl)) 100001 (n - 1) p [] W hpP (fun q hq _ => by have := hT.len q hq; omega) hT' (by omega) h0 (by simp)
  refine callsIn_of_wp Try.func43 rfl trivial ?_ rfl
  simp only [Try.ntmps43, List.size_toArray, List.length_cons, List.length_nil, Nat.reduceAdd, Nat.reduceSub, Array.replicate_succ, Array.replicate_zero, List.push_toArray, List.append_toArray, List.nil_append, List.cons_append]
  replace ht : Hid _ := ⟨ht⟩
  gi_wp2_with fail
  refine ⟨trivial, fun h => (by cases h), ?_⟩
  refine ht.out.mono ?_
  rintro e2 w7 (⟨rfl, hJ7, hk7⟩ | ⟨rfl, q', hq', hJx7⟩)
  · gi_wp2
    go_end0
    exact ⟨⟨_, rfl⟩, .inl ⟨_, rfl, by simpa using hJ7⟩⟩
  · gi_wp2
    go_end0
    exact ⟨⟨_, rfl⟩, .inr ⟨_, hq', by simpa using hJx7⟩⟩
end Go.Proofs.Ytpcdmjalfabbmaa
