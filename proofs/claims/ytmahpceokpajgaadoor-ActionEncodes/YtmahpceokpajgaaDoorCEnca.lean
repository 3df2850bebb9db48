/- What codec.Encode returns, at whatever list of fields. -/
import Derived.Test.YtmahpceokpajgaaDoorCEnco
import Derived.Lib.SlBytesConst
import Derived.Lib.SmallJoins
namespace Go.Proofs.YtmahpceokpajgaaDoor.C
open Go.RowKit Go.Shelf Plain Go.IntWalk
set_option linter.unusedVariables false
attribute [local go_sem] Oper.semAt_some

set_option maxRecDepth 100000 in
set_option maxHeartbeats 1000000 in
theorem encode_long (F : Fence) (n : Nat) (h11 : F.fn 25) (hro : F.round = none) (a : Option Addr) (cap len : Nat) (w : World) (hl : 200 < len) (hm : len ≤ 9223372036854775807) :
    CallsIn F n Tryd.prog 25 #[.slice a len cap] w fun e W' => e = .returned (.tuple #[.slice none 0 0, .int .i64 11]) ∧ Below w.heap.size w W' := by
  have hl' : (200 : Int) < (len : Int) := by omega
  refine callsIn_of_wp Tryd.func25 rfl h11 ?_ hro
  simp only [Tryd.ntmps25, List.size_toArray, List.length_cons, List.length_nil, Nat.reduceAdd, Nat.reduceSub, Array.replicate_succ, Array.replicate_zero, List.push_toArray, List.append_toArray, List.nil_append, List.cons_append]
  gi_wp2
  exact bodyPost_ret (v := .tuple #[.slice none 0 0, .int .i64 11]) (by simp [results, Tryd.results25, go_sem]) rfl ⟨rfl, ((Below.refl _ _).alloc (Nat.le_refl _) _).alloc (by simp) _⟩

/-- Is a list right? -/
def okL (xs : List Fd) : Bool := decide (xs.length ≤ 200) && xs.all Fd.right
/-- Its bytes, if it is. -/
def encR (xs : List Fd) : List Int := if okL xs = true then encL xs else []
def errR (xs : List Fd) : Int := if okL xs = true then 0 else 11

theorem fds_of {n₀ : Nat} {W : World} : ∀ {xs : List Fd}, (∀ x ∈ xs, x.ok n₀ W) → ∃ ys : List (FdOk n₀ W), fds ys = xs
  | [], _ => ⟨[], rfl⟩
  | x :: xs, h => by
    obtain ⟨ys, e⟩ := fds_of (xs := xs) (fun y hy => h y (by simp [hy]))
    exact ⟨⟨x, h x (by simp)⟩ :: ys, by simp only [fds, List.map_cons]; exact congrArg _ e⟩

theorem encF_byte (x : Fd) (n₀ : Nat) (W : World) (h : x.ok n₀ W) (hr : x.right = true) : ∀ z ∈ encF x, 0 ≤ z ∧ z < 256 := by
  have h1 := rightB_true hr
  intro z hz
  simp only [encF, List.mem_cons] at hz
  rcases hz with rfl | rfl | rfl | hz
  · omega
  · omega
  · omega
  · exact h.1.2 z hz
theorem encR_byte {xs : List Fd} {n₀ : Nat} {W : World} (h : ∀ x ∈ xs, x.ok n₀ W) : ∀ z ∈ encR xs, 0 ≤ z ∧ z < 256 := by
  unfold encR
  split
  · next ho =>
    simp only [okL, Bool.and_eq_true, List.all_eq_true] at ho
    intro z hz
    obtain ⟨x, hx, hzx⟩ := List.mem_flatMap.1 hz
    exact encF_byte x n₀ W (h x hx) (ho.2 x hx) z hzx
  · intro z hz; cases hz

/-- codec.Encode, at whatever list of fields. -/
theorem encode_any (v : Value) (xs : List Fd) (w : World) (hI : Flds w.heap.size w v xs) :
    Calls Tryd.prog 25 #[v] w fun e w' => ∃ u, e = .returned (.tuple #[u, .int .i64 (errR xs)]) ∧ w'.ownsRow w.heap.size 5 1 u (encR xs).length ((encR xs).map (Value.int .u8)) ∧ Below w.heap.size w w' := by
  have hv : ∃ a cap, v = .slice a xs.length cap ∧ xs.length ≤ 9223372036854775807 := by
    obtain ⟨⟨rfl | ⟨ad, cap, rfl⟩, rfl⟩ | ⟨b, off, cap, rfl, _, hl, hm, _⟩, _⟩ := hI
    · exact ⟨none, 0, rfl, by simp⟩
    · exact ⟨_, cap, rfl, by simp⟩
    · exact ⟨_, cap, rfl, by unfold maxLen at hm; omega⟩
  obtain ⟨a, cap, rfl, hm⟩ := hv
  by_cases hl : xs.length ≤ 200
  · obtain ⟨ys, rfl⟩ := fds_of hI.2
    refine ((callsIn_wide (n := 5)).1 (encode_t Fence.wide 5 trivial trivial trivial trivial rfl (by omega) a cap _ w ys hI hl (fds_length ys).symm)).mono ?_
    rintro e W' (⟨u, rfl, hall, hrow, hB⟩ | ⟨rfl, ⟨y, hy, hyr⟩, hB⟩)
    · have ho : okL (fds ys) = true := by
        simp only [okL, Bool.and_eq_true, List.all_eq_true, decide_eq_true_eq]
        exact ⟨hl, fds_all hall⟩
      refine ⟨u, by simp [errR, ho], ?_, hB⟩
      simp only [encR, ho, if_true]
      exact hrow
    · have ho : ¬ okL (fds ys) = true := by
        intro h
        simp only [okL, Bool.and_eq_true, List.all_eq_true] at h
        have := h.2 y.1 (List.mem_map.2 ⟨y, hy, rfl⟩)
        rw [hyr] at this; cases this
      refine ⟨.slice none 0 0, by simp [errR, ho], ?_, hB⟩
      simp only [encR, ho]
      exact World.ownsRow_nil _ _ _ _
  · refine ((callsIn_wide (n := 5)).1 (encode_long Fence.wide 5 trivial rfl a cap _ w (by omega) hm)).mono ?_
    rintro e W' ⟨rfl, hB⟩
    have ho : ¬ okL xs = true := by simp only [okL, Bool.and_eq_true, decide_eq_true_eq]; omega
    refine ⟨.slice none 0 0, by simp [errR, ho], ?_, hB⟩
    simp only [encR, ho]
    exact World.ownsRow_nil _ _ _ _

end Go.Proofs.YtmahpceokpajgaaDoor.C
