/- What the document's answer for lists (belfryref01.Same) returns, for every two lists of fields. -/
import Derived.Test.YtbkiafedadofdaaLater
import Derived.Test.YtbkiafedadofdaaSizw
namespace Go.Proofs.Ytbkiafedadofdaa
open Go.RowKit Go.Shelf Plain Go.IntWalk
set_option linter.unusedVariables false

def sameF (x y : Fd) : Bool := decide (x.tag = y.tag) && decide (x.zs = y.zs)
/-- What a field says. -/
def said (x : Fd) : Int × List Int := (x.tag, x.zs)

set_option maxRecDepth 100000 in
set_option maxHeartbeats 1000000 in
theorem same_len (a b : Option Addr) (len cap len2 cap2 : Nat) (h : ((len : Int) != (len2 : Int)) = true) (w : World) :
    Calls Try.prog 15 #[.slice a len cap, .slice b len2 cap2] w fun e w' => e = .returned (.bool false) ∧ Below w.heap.size w w' := by
  go_enter Try.func15, Try.ntmps15
  go_wp2
  go_ret
  exact ⟨rfl, Below.refl _ _⟩

set_option maxRecDepth 100000 in
set_option maxHeartbeats 2000000 in
theorem same_core (a b : Option Addr) (len cap cap2 : Nat) (hlm : len ≤ 9223372036854775807) (w : World) (f g : Nat → Fd)
    (hc : ∀ j, j < len → ∃ bb off, a = some ⟨bb, off, none⟩ ∧ w.cell? ⟨bb, off + j * 2, none⟩ = some (.int .i64 (f j).tag) ∧ w.cell? ⟨bb, off + j * 2 + 1, none⟩ = some (.slice (f j).a (f j).len (f j).cap) ∧ (f j).ok w.heap.size w)
    (hd : ∀ j, j < len → ∃ bb off, b = some ⟨bb, off, none⟩ ∧ w.cell? ⟨bb, off + j * 2, none⟩ = some (.int .i64 (g j).tag) ∧ w.cell? ⟨bb, off + j * 2 + 1, none⟩ = some (.slice (g j).a (g j).len (g j).cap) ∧ (g j).ok w.heap.size w) :
    Calls Try.prog 15 #[.slice a len cap, .slice b len cap2] w fun e w' => ((e = .returned (.bool true) ∧ ∀ j, j < len → said (f j) = said (g j)) ∨ (e = .returned (.bool false) ∧ ∃ j, j < len ∧ said (f j) ≠ said (g j))) ∧ Below w.heap.size w w' := by
  go_enter Try.func15, Try.ntmps15
  go_wp2
  go_loopw [5] (fun i wr => ∃ k : Nat, k ≤ len ∧ i = .int .i64 k ∧ Hid (∀ j, j < k → said (f j) = said (g j)) ∧ Below w.heap.size w wr) (fun i _ => len - (intOf i).toNat)
  case atStart => exact ⟨0, Nat.zero_le _, rfl, fun j hj => by omega, Below.refl _ _⟩
  case round =>
    obtain ⟨k, hk, rfl, HK, hB⟩ := hrel
    by_cases hlt : k < len
    · obtain ⟨b1, o1, rfl, c1, c2, ok1⟩ := hc k hlt
      obtain ⟨b2, o2, rfl, d1, d2, ok2⟩ := hd k hlt
      have l1 := World.block_lt_of_cell? w _ c1
      have l2 := World.block_lt_of_cell? w _ d1
      haveI := lat_nonempty wr
      have e1 := lat_cell ((hB.cell (p := ⟨b1, o1 + k * 2, none⟩) l1).trans c1)
      have e2 := lat_cell ((hB.cell (p := ⟨b1, o1 + k * 2 + 1, none⟩) l1).trans c2)
      have e3 := lat_cell ((hB.cell (p := ⟨b2, o2 + k * 2, none⟩) l2).trans d1)
      have e4 := lat_cell ((hB.cell (p := ⟨b2, o2 + k * 2 + 1, none⟩) l2).trans d2)
      obtain ⟨A, HA⟩ : ∃ A, Hid (strOfNums (f k).zs = A) := ⟨_, rfl⟩
      obtain ⟨C, HC⟩ : ∃ C, Hid (strOfNums (g k).zs = C) := ⟨_, rfl⟩
      have kA := lat_conv ((ok1.1.below hB).mono hB.size) HA
      have kC := lat_conv ((ok2.1.below hB).mono hB.size) HC
      unfold Fd.sl at kA kC
      have hAC : (A.toList == C.toList) = decide ((f k).zs = (g k).zs) := by rw [← HA.out, ← HC.out]; exact str_eq ok1.1.2 ok2.1.2
      by_cases ht : (f k).tag = (g k).tag
      · have ht' : ((f k).tag != (g k).tag) = false := by simpa using ht
        have HT : Hid ((f k).tag = (g k).tag) := ht
        clear ht
        by_cases hz : (f k).zs = (g k).zs
        · have hAC2 : (A.toList == C.toList) = true := by rw [hAC]; simp [hz]
          have HZ : Hid ((f k).zs = (g k).zs) := hz
          clear hz hAC
          go_wp2_with fail
          refine wp_region_lat (by kernel_rfl) (by kernel_rfl) ?_
          repeat (go_big_quiet_step (fail))
          refine wpQuiet_nil ?_
          intro _ hw'
          obtain ⟨p, hw''⟩ := hw'
          subst hw''
          clear e1 e2 e3 e4 kA kC
          go_wp2
          go_roundw
          case rel =>
            refine ⟨k + 1, by omega, by go_num, fun j hj => ?_, hB.trans (p.h.mono hB.size)⟩
            rcases Nat.lt_or_ge j k with h | h
            · exact HK.out j h
            · obtain rfl : j = k := by omega
              exact Prod.ext HT.out HZ.out
          case measure => simp [intOf]; omega
        · have hAC2 : (A.toList == C.toList) = false := by rw [hAC]; simp [hz]
          have HZ : Hid (¬ (f k).zs = (g k).zs) := hz
          clear hz hAC
          go_wp2_with fail
          refine wp_region_lat (by kernel_rfl) (by kernel_rfl) ?_
          repeat (go_big_quiet_step (fail))
          refine wpQuiet_nil ?_
          intro _ hw'
          obtain ⟨p, hw''⟩ := hw'
          subst hw''
          clear e1 e2 e3 e4 kA kC
          go_wp2
          go_ret
          exact ⟨.inr ⟨rfl, k, hlt, fun e => HZ.out (congrArg Prod.snd e)⟩, hB.trans (p.h.mono hB.size)⟩
      · have ht' : ((f k).tag != (g k).tag) = true := by simpa using ht
        have HT : Hid (¬ (f k).tag = (g k).tag) := ht
        clear ht hAC
        go_wp2_with fail
        refine wp_region_lat (by kernel_rfl) (by kernel_rfl) ?_
        repeat (go_big_quiet_step (fail))
        refine wpQuiet_nil ?_
        intro _ hw'
        obtain ⟨p, hw''⟩ := hw'
        subst hw''
        clear e1 e2 e3 e4 kA kC
        go_wp2
        go_ret
        exact ⟨.inr ⟨rfl, k, hlt, fun e => HT.out (congrArg Prod.fst e)⟩, hB.trans (p.h.mono hB.size)⟩
    · obtain rfl : k = len := by omega
      go_wp2
      go_ret
      exact ⟨.inl ⟨rfl, HK.out⟩, hB⟩

theorem Flds.cells {w : World} {a : Option Addr} {len cap : Nat} {xs : List Fd} [Inhabited Fd] (hI : Flds w.heap.size w (.slice a len cap) xs) :
    ∀ j, j < len → ∃ bb off, a = some ⟨bb, off, none⟩ ∧ w.cell? ⟨bb, off + j * 2, none⟩ = some (.int .i64 (xs[j]?.getD default).tag) ∧ w.cell? ⟨bb, off + j * 2 + 1, none⟩ = some (.slice (xs[j]?.getD default).a (xs[j]?.getD default).len (xs[j]?.getD default).cap) ∧ (xs[j]?.getD default).ok w.heap.size w := by
  intro j hj
  have hl := hI.len
  have hx : xs[j]? = some (xs[j]?.getD default) := by rw [List.getElem?_eq_getElem (by omega)]; rfl
  obtain ⟨⟨e | ⟨ad, c, e⟩, h⟩ | ⟨bb, off, c, e, hb, _, hm, hc⟩, hok⟩ := hI
  · simp at e; omega
  · simp at e; omega
  · simp only [Value.slice.injEq] at e
    obtain ⟨c1, c2⟩ := hc j _ hx
    exact ⟨bb, off, e.1, c1, c2, hok _ (List.mem_of_getElem? hx)⟩

/-- belfryref01.Same, at whatever two lists. -/
theorem same_any (a b : Option Addr) (len cap len2 cap2 : Nat) (xs ys : List Fd) (w : World) (hI : Flds w.heap.size w (.slice a len cap) xs) (hJ : Flds w.heap.size w (.slice b len2 cap2) ys) :
    Calls Try.prog 15 #[.slice a len cap, .slice b len2 cap2] w fun e w' => e = .returned (.bool (decide (xs.map said = ys.map said))) ∧ Below w.heap.size w w' := by
  have hl := hI.len
  have hl2 := hJ.len
  by_cases h : len = len2
  · subst h
    haveI : Inhabited Fd := ⟨⟨0, none, 0, 0, []⟩⟩
    refine (same_core a b len cap cap2 hI.len_le w (fun j => xs[j]?.getD default) (fun j => ys[j]?.getD default) hI.cells hJ.cells).mono ?_
    rintro e w' ⟨⟨rfl, h1⟩ | ⟨rfl, j, hj, h1⟩, hB⟩
    · refine ⟨?_, hB⟩
      have : xs.map said = ys.map said := by
        apply List.ext_getElem
        · simp; omega
        · intro i h2 h3
          simp only [List.length_map] at h2 h3
          have h4 := h1 i (by omega)
          simp only [List.getElem?_eq_getElem h2, List.getElem?_eq_getElem h3, Option.getD_some] at h4
          simpa using h4
      simp [this]
    · refine ⟨?_, hB⟩
      have : ¬ xs.map said = ys.map said := by
        intro e
        apply h1
        have h2 : j < xs.length := by omega
        have h3 : j < ys.length := by omega
        have h4 := congrArg (fun l => l[j]?) e
        simp only [List.getElem?_map, List.getElem?_eq_getElem h2, List.getElem?_eq_getElem h3, Option.map_some, Option.some.injEq] at h4
        simpa only [List.getElem?_eq_getElem h2, List.getElem?_eq_getElem h3, Option.getD_some] using h4
      simp [this]
  · refine (same_len a b len cap len2 cap2 (by simp; omega) w).mono ?_
    rintro e w' ⟨rfl, hB⟩
    have : ¬ xs.map said = ys.map said := by
      intro e
      have := congrArg List.length e
      simp only [List.length_map] at this
      omega
    simp [this, hB]
end Go.Proofs.Ytbkiafedadofdaa
