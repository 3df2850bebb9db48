/- A region that leaves its order open, whose operations only read what lay before it, and whose callees change nothing of that: one walk in the text's order serves every order. The class of worlds: those in which whatever lay in w lies as it lay. And a step of such a region that appends bytes. -/
import Derived.Test.YtdokhiikglcpcaaLits
import Derived.Deep.QuietTactic
import Derived.BigQuiet
import Derived.Deep.RegionHeld3
import Derived.Deep.AppendLies
namespace Go.Proofs.Ytdokhiikglcpcaa
open Go.RowKit Crcm
set_option linter.unusedVariables false

/-- A world in which whatever lay in w lies as it lay. -/
structure Lat (w : World) where
  W : World
  h : Below w.heap.size w W
theorem wp_region_lat {P : Program} {id : Nat} {Q : Exit → Act → World → Prop} {a : Act} {w : World} {l : List Oper} (hm : P.follows .mixedOrders = true) (hB : Region.lexB .any l.toArray = true)
    (h : wpQuiet P l.toArray (fun w' => ∃ p : Lat w, w' = p.W) (fun a' => ∀ w', (∃ p : Lat w, w' = p.W) → Q .normal a' w') l a) : (Code.region id l.toArray true).wp P Q a w :=
  wp_region_quiet (C := fun w' => ∃ p : Lat w, w' = p.W) hm hB ⟨⟨_, (Below.refl _ w).drew⟩, rfl⟩ (by simpa using h)
theorem lat_nonempty (w : World) : Nonempty (Lat w) := ⟨⟨w, Below.refl _ _⟩⟩
theorem lat_cell {w : World} {b o : Nat} {v : Value} (h : w.cell? ⟨b, o, none⟩ = some v) (p : Lat w) : p.W.cell? ⟨b, o, none⟩ = some v := (p.h.cell (p := ⟨b, o, none⟩) (World.block_lt_of_cell? w _ h)).trans h
theorem lat_conv {w : World} {v : Value} {zs : List Int} {A : ByteArray} (h : Bts w.heap.size w v zs) (HA : Hid (strOfNums zs = A)) (p : Lat w) : (convert 22 9 v).run Try.prog p.W = .ok (.string A) p.W := by
  rw [← HA.out]; exact run_conv (h.below p.h)
theorem lat_alive {w : World} (p : Lat w) : Calls Try.prog 8 #[] p.W fun e w'' => e = .returned (.bool true) ∧ ∃ p' : Lat w, w'' = p'.W :=
  (alive_any p.W).mono fun e w'' ⟨he, hB⟩ => ⟨he, ⟨w'', p.h.trans (hB.mono p.h.size)⟩, rfl⟩
theorem lat_sum {w : World} {v : Value} {zs : List Int} {D : Int} (h : Bts w.heap.size w v zs) (HD : Hid (D = U (sum (bts zs)))) (p : Lat w) : Calls Try.prog 10 #[v] p.W fun e w'' => e = .returned (.int .u32 D) ∧ ∃ p' : Lat w, w'' = p'.W :=
  (sum_any v zs p.W ((h.below p.h).mono p.h.size)).mono fun e w'' ⟨d, he, hd, hB⟩ => ⟨by rw [he, hd.out, HD.out], ⟨w'', p.h.trans (hB.mono p.h.size)⟩, rfl⟩
theorem lat_more {w : World} {v : Value} {zs : List Int} {A D : Int} {x : BitVec 32} (hA : Hid (A = U x)) (h : Bts w.heap.size w v zs) (HD : Hid (D = U (more x (bts zs)))) (p : Lat w) : Calls Try.prog 12 #[.int .u32 A, v] p.W fun e w'' => e = .returned (.int .u32 D) ∧ ∃ p' : Lat w, w'' = p'.W :=
  (more_any A x hA v zs p.W ((h.below p.h).mono p.h.size)).mono fun e w'' ⟨d, he, hd, hB⟩ => ⟨by rw [he, hd.out, HD.out], ⟨w'', p.h.trans (hB.mono p.h.size)⟩, rfl⟩
theorem lat_join {w : World} {A B D n : Int} {x y : BitVec 32} (hA : Hid (A = U x)) (hB : Hid (B = U y)) (hn : n < 9223372036854775808) (HD : Hid (D = U (join x y n.toNat))) (p : Lat w) : Calls Try.prog 14 #[.int .u32 A, .int .u32 B, .int .i64 n] p.W fun e w'' => e = .returned (.int .u32 D) ∧ ∃ p' : Lat w, w'' = p'.W :=
  (join_any A B n x y hA hB hn p.W).mono fun e w'' ⟨d, he, hd, hw⟩ => ⟨by rw [he, hd.out, HD.out], p, hw.symm⟩

/-- 'append(b, xs...)' at a step of a region that draws its order. -/
theorem step_append_bytes {ops : Array Oper} {o : Oper} {a : Act} {w : World} {K : Act → World → Prop} {Q : Exit → Act → World → Prop} {E : Prop} (hgd : o.guard = none) (sl x : Operand) (hop : o.op = Op.call { callee := Callee.builtin Builtin.append, args := #[sl, x], argTypes := #[22, 22] })
    (v sv : Value) (hs : a.eval sl = v) (hx : a.eval x = sv) (base n₀ k : Nat) (xs zs : List Int) (hown : w.ownsRow base 5 1 v k (xs.map (Value.int .u8))) (hz : Bts n₀ w sv zs) (b1 : k + zs.length ≤ 140737488355328) (b3 : base ≤ w.heap.size)
    (hK : ∀ v' w', w'.ownsRow base 5 1 v' (k + zs.length) ((xs ++ zs).map (Value.int .u8)) → w.grownBy w' v.ownBlock → K (a.put o.dst v') w') :
    if Region.wanted o (yielded ops a.tmps) = true then Oper.wp Try.prog o a w K Q else E := by
  have hw : Region.wanted o (yielded ops a.tmps) = true := by simp [Region.wanted, hgd]
  rw [if_pos hw]
  exact wp_append_bytes sl x hop v sv hs hx base n₀ k xs zs hown hz b1 b3 hK
end Go.Proofs.Ytdokhiikglcpcaa
