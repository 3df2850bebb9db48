/- One act of a script on a wheel: what it leaves. -/
import Derived.Test.YtlljfgpmjpmoiaaArg
namespace Go.Proofs.Ytlljfgpmjpmoiaa
open Go.RowKit Go.IntWalk Go.Maps Go.Shelf
set_option linter.unusedVariables false
theorem putA_le {now : Int} {L : List E} (h : Srt L) (e : E) : (putA now e L).length ≤ L.length + 1 := by
  unfold putA
  split
  · exact putE_le h e
  · omega
theorem rst_le (t : Int) (L : List E) : (rst t L).length ≤ L.length := List.length_filter_le _ _
/-- How many stand at places below m. -/
def cntB (now : Int) (L : List E) (m : Nat) : Nat := (L.filter fun e => decide (pE now e < m)).length
theorem cntB_zero (now : Int) (L : List E) : cntB now L 0 = 0 := by simp [cntB]
theorem cntB_succ (now : Int) (L : List E) (m : Nat) : cntB now L (m + 1) = cntB now L m + (atP now L m).length := by
  unfold cntB atP
  induction L with
  | nil => rfl
  | cons a r ih =>
    simp only [List.filter_cons]
    by_cases h1 : pE now a < m
    · have h2 : pE now a < m + 1 := by omega
      have h3 : ¬ pE now a = m := by omega
      simp [h1, h2, h3] at ih ⊢
      omega
    · by_cases h3 : pE now a = m
      · simp [h3] at ih ⊢
        omega
      · have h2 : ¬ pE now a < m + 1 := by omega
        simp [h1, h2, h3] at ih ⊢
        omega
theorem cntB_all (now : Int) (L : List E) : cntB now L 65 = L.length := by
  unfold cntB
  have h : L.filter (fun e => decide (pE now e < 65)) = L := List.filter_eq_self.2 fun x hx => decide_eq_true (plc_lt : pE now x < 65)
  rw [h]
theorem cntB_le (now : Int) (L : List E) (m : Nat) : cntB now L m ≤ L.length := List.length_filter_le _ _
/-- last is not above what stands from place m on. -/
def Up (now : Int) (L : List E) (m : Nat) (last : Int) : Prop := now ≤ last ∧ ∀ e ∈ L, m ≤ pE now e → last ≤ e.at_
/-- .. nor what stands at place m from the i-th on, or behind it. -/
def Ui (now : Int) (L M : List E) (m i : Nat) (last : Int) : Prop := now ≤ last ∧ (∀ e ∈ L, m < pE now e → last ≤ e.at_) ∧ ∀ (j : Nat) (x : E), i ≤ j → M[j]? = some x → last ≤ x.at_
theorem Up.start {now : Int} {L : List E} (hab : ∀ e ∈ L, now < e.at_) : Up now L 0 now := ⟨by omega, fun e he _ => by have := hab e he; omega⟩
theorem Up.in_ {now : Int} {L M : List E} {m : Nat} {last : Int} (h : Up now L m last) (hM : atP now L m = M) : Ui now L M m 0 last := by
  refine ⟨h.1, fun e he hm => h.2 e he (by omega), fun j x _ hx => ?_⟩
  have := List.mem_of_getElem? hx
  rw [← hM] at this
  obtain ⟨h1, h2⟩ := mem_atP.1 this
  exact h.2 x h1 (by omega)
theorem Ui.out {now : Int} {L M : List E} {m : Nat} {last : Int} (h : Ui now L M m M.length last) : Up now L (m + 1) last := ⟨h.1, fun e he hm => h.2.1 e he (by omega)⟩
/-- One more of a place. -/
theorem Ui.next {now : Int} {L M : List E} {m i : Nat} {last : Int} (h : Ui now L M m i last) (hs : Srt L) (hn : 0 ≤ now ∧ now < 18446744073709551616) (hab : ∀ e ∈ L, now < e.at_) (hok : ∀ e ∈ L, e.ok) (hM : atP now L m = M) {x : E} (hx : M[i]? = some x) : last ≤ x.at_ ∧ now < x.at_ ∧ Ui now L M m (i + 1) x.at_ := by
  have hxM := List.mem_of_getElem? hx
  rw [← hM] at hxM
  obtain ⟨hxL, hxp⟩ := mem_atP.1 hxM
  refine ⟨h.2.2 i x (Nat.le_refl _) hx, hab x hxL, Int.le_of_lt (hab x hxL), fun e he hm => ?_, fun j y hj hy => ?_⟩
  · have o1 := hok x hxL
    have o2 := hok e he
    have a1 := hab x hxL
    have a2 := hab e he
    unfold E.ok at o1 o2
    have := plc_ahead (n := now.toNat) (a := x.at_.toNat) (b := e.at_.toNat) (by omega) (by omega) (by omega) (by omega) (by omega) (by rw [← hxp] at hm; exact hm)
    omega
  · have hsM : Srt M := hM ▸ hs.atP now m
    rcases hsM.next hx hy (by omega) with h1 | h1
    · omega
    · omega
theorem lat_clock {W w : World} {l : List Res} (h : St W w l) {wb : Nat} {now : Int} {L : List E} (hx : Res.q wb now L ∈ l) (p : Lat w) : Calls Try.prog 20 #[.pointer (some ⟨wb, 0, none⟩)] p.W fun e w'' => e = .returned (.int .u64 now) ∧ ∃ p' : Lat w, w'' = p'.W :=
  (clock_m (h.grown p.h) hx).mono fun e w'' ⟨he, hB⟩ => ⟨he, p, hB⟩
end Go.Proofs.Ytlljfgpmjpmoiaa
