/- The question with a fixed answer that each law asks besides: it is answered with true. -/
import Derived.Test.YtbkiafedadofdaaEnco
import Derived.Lib.SlBytesConst
import Derived.Lib.SmallJoins
namespace Go.Proofs.Ytbkiafedadofdaa
open Go.RowKit Go.Shelf Plain Go.IntWalk
set_option linter.unusedVariables false
attribute [local go_sem] Oper.semAt_some

set_option maxRecDepth 100000 in
set_option maxHeartbeats 1000000 in
theorem encode_long (F : Fence) (n : Nat) (h11 : F.fn 11) (hro : F.round = none) (a : Option Addr) (cap len : Nat) (w : World) (hl : 200 < len) (hm : len ≤ 9223372036854775807) :
    CallsIn F n Try.prog 11 #[.slice a len cap] w fun e W' => e = .returned (.tuple #[.slice none 0 0, .int .i64 11]) ∧ Below w.heap.size w W' := by
  have hl' : (200 : Int) < (len : Int) := by omega
  refine callsIn_of_wp Try.func11 rfl h11 ?_ hro
  simp only [Try.ntmps11, List.size_toArray, List.length_cons, List.length_nil, Nat.reduceAdd, Nat.reduceSub, Array.replicate_succ, Array.replicate_zero, List.push_toArray, List.append_toArray, List.nil_append, List.cons_append]
  gi_wp2
  exact bodyPost_ret (v := .tuple #[.slice none 0 0, .int .i64 11]) (by simp [results, Try.results11, go_sem]) rfl ⟨rfl, ((Below.refl _ _).alloc (Nat.le_refl _) _).alloc (by simp) _⟩

/-- Is a list right? -/
def okL (xs : List Fd) : Bool := decide (xs.length ≤ 200) && xs.all Fd.right
/-- Its bytes, if it is. -/
def encR (xs : List Fd) : List Int := if okL xs = true then encL xs else []
def errR (xs : List Fd) : Int := if okL xs = true then 0 else 11

theorem fds_of {n₀ : Nat} {W : World} : ∀ {xs : List Fd}, (∀ x ∈ xs, x.ok n₀ W) → ∃ ys : List (FdOk n₀ W), fds ys = xs
  | [], _ => ⟨[], rfl⟩
  | x :: xs, h => by
    obtain ⟨ys, e⟩ := fds_of (xs := xs) (fun y hy => h y (by simp [hy]))
    exact ⟨⟨x, h x (by simp)⟩ :: ys, by simp only [fds, List.map_cons]; exact congrArg _ e⟩

theorem encF_byte (x : Fd) (n₀ : Nat) (W : World) (h : x.ok n₀ W) (hr : x.right = true) : ∀ z ∈ encF x, 0 ≤ z ∧ z < 256 := by
  have h1 := rightB_true hr
  intro z hz
  simp only [encF, List.mem_cons] at hz
  rcases hz with rfl | rfl | rfl | hz
  · omega
  · omega
  · omega
  · exact h.1.2 z hz
theorem encR_byte {xs : List Fd} {n₀ : Nat} {W : World} (h : ∀ x ∈ xs, x.ok n₀ W) : ∀ z ∈ encR xs, 0 ≤ z ∧ z < 256 := by
  unfold encR
  split
  · next ho =>
    simp only [okL, Bool.and_eq_true, List.all_eq_true] at ho
    intro z hz
    obtain ⟨x, hx, hzx⟩ := List.mem_flatMap.1 hz
    exact encF_byte x n₀ W (h x hx) (ho.2 x hx) z hzx
  · intro z hz; cases hz

/-- codec.Encode, at whatever list of fields. -/
theorem encode_any (v : Value) (xs : List Fd) (w : World) (hI : Flds w.heap.size w v xs) :
    Calls Try.prog 11 #[v] w fun e w' => ∃ u, e = .returned (.tuple #[u, .int .i64 (errR xs)]) ∧ w'.ownsRow w.heap.size 5 1 u (encR xs).length ((encR xs).map (Value.int .u8)) ∧ Below w.heap.size w w' := by
  have hv : ∃ a cap, v = .slice a xs.length cap ∧ xs.length ≤ 9223372036854775807 := by
    obtain ⟨⟨rfl | ⟨ad, cap, rfl⟩, rfl⟩ | ⟨b, off, cap, rfl, _, hl, hm, _⟩, _⟩ := hI
    · exact ⟨none, 0, rfl, by simp⟩
    · exact ⟨_, cap, rfl, by simp⟩
    · exact ⟨_, cap, rfl, by unfold maxLen at hm; omega⟩
  obtain ⟨a, cap, rfl, hm⟩ := hv
  by_cases hl : xs.length ≤ 200
  · obtain ⟨ys, rfl⟩ := fds_of hI.2
    refine ((callsIn_wide (n := 5)).1 (encode_t Fence.wide 5 trivial trivial trivial trivial rfl (by omega) a cap _ w ys hI hl (fds_length ys).symm)).mono ?_
    rintro e W' (⟨u, rfl, hall, hrow, hB⟩ | ⟨rfl, ⟨y, hy, hyr⟩, hB⟩)
    · have ho : okL (fds ys) = true := by
        simp only [okL, Bool.and_eq_true, List.all_eq_true, decide_eq_true_eq]
        exact ⟨hl, fds_all hall⟩
      refine ⟨u, by simp [errR, ho], ?_, hB⟩
      simp only [encR, ho, if_true]
      exact hrow
    · have ho : ¬ okL (fds ys) = true := by
        intro h
        simp only [okL, Bool.and_eq_true, List.all_eq_true] at h
        have := h.2 y.1 (List.mem_map.2 ⟨y, hy, rfl⟩)
        rw [hyr] at this; cases this
      refine ⟨.slice none 0 0, by simp [errR, ho], ?_, hB⟩
      simp only [encR, ho]
      exact World.ownsRow_nil _ _ _ _
  · refine ((callsIn_wide (n := 5)).1 (encode_long Fence.wide 5 trivial rfl a cap _ w (by omega) hm)).mono ?_
    rintro e W' ⟨rfl, hB⟩
    have ho : ¬ okL xs = true := by simp only [okL, Bool.and_eq_true, decide_eq_true_eq]; omega
    refine ⟨.slice none 0 0, by simp [errR, ho], ?_, hB⟩
    simp only [encR, ho]
    exact World.ownsRow_nil _ _ _ _

/-- 'string(b)'. -/
theorem run_conv {n₀ : Nat} {W : World} {v : Value} {zs : List Int} (h : Bts n₀ W v zs) : (convert 23 9 v).run Try.prog W = .ok (.string (strOfNums zs)) W := by
  obtain ⟨⟨rfl | ⟨ad, cap, rfl⟩, rfl⟩ | ⟨b, off, cap, rfl, hb, hl, hm, hc⟩, hz⟩ := h
  · exact run_convert_bytes_nil W 23 5 Try.underlying23 Try.underlying5 0 0 9 Try.underlying9
  · rw [run_convert_bytes_string W 23 9 5 _ 0 cap Try.underlying23 Try.underlying5 Try.underlying9]
    exact run_bytesToString W ad 0 cap [] (run_loadCells_list (P := Try.prog) W ad [] (fun j v hj => by simp at hj))
  · exact run_convert_bytes_arg W 23 5 Try.underlying23 Try.underlying5 b off zs.length cap zs rfl (fun i hi => by rw [hc i hi]; rfl) 9 Try.underlying9

/-- The fields of the fixed question. -/
def aliveFds (g : Nat) : List Fd := [⟨7, some ⟨g, 0, none⟩, 2, 2, [97, 98]⟩, ⟨9, none, 0, 0, []⟩]
theorem alive_flds (w : World) : Flds (w.heap.size + 1 + 1) ((w.alloc (.cells #[.int .u8 97, .int .u8 98] 5 (2, 3))).alloc (.cells #[.int .i64 7, .slice (some ⟨w.heap.size, 0, none⟩) 2 2, .int .i64 9, .slice none 0 0] 37)) (.slice (some ⟨w.heap.size + 1, 0, none⟩) 2 2) (aliveFds w.heap.size) := by
  have h1 := heap_alloc_new (w.alloc (.cells #[.int .u8 97, .int .u8 98] 5 (2, 3))) (.cells #[.int .i64 7, .slice (some ⟨w.heap.size, 0, none⟩) 2 2, .int .i64 9, .slice none 0 0] 37)
  rw [World.size_alloc] at h1
  have h2 := alloc_old (o' := .cells #[.int .i64 7, .slice (some ⟨w.heap.size, 0, none⟩) 2 2, .int .i64 9, .slice none 0 0] 37) (heap_alloc_new w (.cells #[.int .u8 97, .int .u8 98] 5 (2, 3)))
  refine ⟨.inr ⟨w.heap.size + 1, 0, 2, rfl, by omega, by simp [aliveFds], by unfold maxLen; omega, ?_⟩, ?_⟩
  · intro j x hj
    match j, hj with
    | 0, hj => obtain rfl : _ = x := by simpa [aliveFds] using hj
               exact ⟨Joins.cell_of_block h1 0, Joins.cell_of_block h1 1⟩
    | 1, hj => obtain rfl : _ = x := by simpa [aliveFds] using hj
               exact ⟨Joins.cell_of_block h1 2, Joins.cell_of_block h1 3⟩
    | j + 2, hj => simp [aliveFds] at hj
  · intro x hx
    simp only [aliveFds, List.mem_cons, List.not_mem_nil, or_false] at hx
    rcases hx with rfl | rfl
    · refine ⟨⟨.inr ⟨w.heap.size, 0, 2, rfl, by omega, by simp, by unfold maxLen; omega, fun j hj => ?_⟩, ?_⟩, by show (-9223372036854775808 : Int) ≤ 7; decide, by show (7 : Int) ≤ 9223372036854775807; decide⟩
      · match j, hj with
        | 0, _ => exact Joins.cell_of_block h2 0
        | 1, _ => exact Joins.cell_of_block h2 1
      · intro z hz; simp at hz; omega
    · exact ⟨⟨.inl ⟨.inl rfl, rfl⟩, fun z hz => by cases hz⟩, by decide, by decide⟩
theorem alive_ok (g : Nat) : okL (aliveFds g) = true := by simp [okL, aliveFds, Fd.right, rightB]
theorem alive_enc (g : Nat) : encR (aliveFds g) = [7, 0, 2, 97, 98, 9, 0, 0] := by
  unfold encR
  rw [if_pos (alive_ok g)]
  simp [encL, encF, aliveFds]
theorem alive_err (g : Nat) : errR (aliveFds g) = 0 := by simp [errR, alive_ok]
theorem alive_str : strOfNums [7, 0, 2, 97, 98, 9, 0, 0] = ⟨#[7, 0, 2, 97, 98, 9, 0, 0]⟩ := by rfl
theorem alive_num : numV [1, 0] = 256 ∧ numB [1, 0] = true := by decide
theorem bts_lit2 (W : World) (a b : Int) (ha : 0 ≤ a ∧ a < 256) (hb : 0 ≤ b ∧ b < 256) :
    Bts (W.heap.size + 1) (W.alloc (.cells #[.int .u8 a, .int .u8 b] 5)) (.slice (some ⟨W.heap.size, 0, none⟩) 2 2) [a, b] := by
  refine ⟨.inr ⟨W.heap.size, 0, 2, rfl, by omega, by simp, by unfold maxLen; omega, fun j hj => ?_⟩, ?_⟩
  · have hh := heap_alloc_new W (.cells #[.int .u8 a, .int .u8 b] 5)
    simp only [World.cell?, hh, Nat.zero_add]
    match j, hj with
    | 0, _ => rfl
    | 1, _ => rfl
  · intro z hz
    simp at hz
    rcases hz with rfl | rfl <;> assumption

set_option maxRecDepth 100000 in
set_option maxHeartbeats 1000000 in
theorem alive_any (w : World) : Calls Try.prog 10 #[] w fun e w' => e = .returned (.bool true) ∧ Below w.heap.size w w' := by
  have kc := fun (w : World) (C : Array Value) (n c : Nat) => Lib.run_convert_bytes_const (P := Try.prog) w 23 5 C n c Try.underlying23 Try.underlying5
  go_enter Try.func10, Try.ntmps10
  go_wp2_with (first
    | (go_at_call 11; go_must (refine (encode_any _ (aliveFds w.heap.size) _ (by simp only [World.size_alloc]; exact alive_flds w)).mono ?_); rintro e w1 ⟨u, rfl, hrow, hB⟩; rw [alive_enc] at hrow; rw [alive_err]; have hbu := Bts.of_own hrow (by decide); have kv := run_conv (hbu.below ((Below.refl _ w1).alloc (Nat.le_refl _) (.cells #[.int .u8 1, .int .u8 0] 5))); rw [alive_str] at kv)
    | (go_at_call 17; go_must (refine (number_any _ [1, 0] _ (by simp only [World.size_alloc]; exact bts_lit2 w1 1 0 (by decide) (by decide))).mono ?_); rintro e w2 ⟨rfl, rfl⟩; rw [alive_num.1, alive_num.2]))
  go_ret
  exact ⟨rfl, ((((Below.refl _ w).alloc (Nat.le_refl _) _).alloc (by simp) _).trans (hB.mono (by simp; omega))).alloc (by have := hB.size; simp at this; omega) _⟩
end Go.Proofs.Ytbkiafedadofdaa
