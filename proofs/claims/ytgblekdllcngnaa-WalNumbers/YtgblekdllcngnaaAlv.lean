/- The question with a fixed answer that each law asks besides: it is answered with true. -/
import Derived.Test.YtgblekdllcngnaaOpn
namespace Go.Proofs.Ytgblekdllcngnaa
open Go.RowKit Go.Shelf Plain Go.IntWalk
set_option linter.unusedVariables false

theorem lit_cells (W : World) (zs : List Int) (fr : Nat × Nat) (hm : zs.length ≤ maxLen) (hz : ∀ z ∈ zs, 0 ≤ z ∧ z < 256) : Bts (W.alloc (.cells (zs.map (Value.int .u8)).toArray 5 fr)).heap.size (W.alloc (.cells (zs.map (Value.int .u8)).toArray 5 fr)) (.slice (some ⟨W.heap.size, 0, none⟩) zs.length zs.length) zs := by
  refine ⟨.inr ⟨W.heap.size, 0, zs.length, rfl, by rw [World.size_alloc]; omega, Nat.le_refl _, hm, fun j hj => ?_⟩, hz⟩
  have hh := heap_alloc_new W (.cells (zs.map (Value.int .u8)).toArray 5 fr)
  simp only [World.cell?, hh, Nat.zero_add]
  simp [hj]
theorem frs_one {r : List Int} (h : okR r) : frs (frm r) = [frm r] := by
  have := frs_frms (rs := [r]) (fun x hx => by simp at hx; subst hx; exact h) []
  rw [frs_none fsz_nil] at this
  simpa [frms] using this
theorem Bts.at {W : World} {n₀ : Nat} {a : Option Addr} {len cap : Nat} {zs : List Int} (h : Bts n₀ W (.slice a len cap) zs) {j : Nat} (hj : j < zs.length) : ∃ b off, a = some ⟨b, off, none⟩ ∧ W.cell? ⟨b, off + j, none⟩ = some (.int .u8 (zs[j]?.getD 0)) := by
  obtain ⟨⟨e | ⟨ad, c, e⟩, hn⟩ | ⟨b', off', c, e, _, h1, h2, h3⟩, _⟩ := h
  · subst hn; simp at hj
  · subst hn; simp at hj
  · simp only [Value.slice.injEq] at e; exact ⟨b', off', e.1, h3 j hj⟩

set_option maxRecDepth 100000 in
set_option maxHeartbeats 4000000 in
theorem alive_any (w : World) : Calls Try.prog 9 #[] w fun e w' => e = .returned (.bool true) ∧ Below w.heap.size w w' := by
  have hokr : okR [104, 105] := ⟨by simp, by simp, by intro z hz; simp at hz; omega⟩
  have kc := fun (w : World) (C : Array Value) (n c : Nat) => Lib.run_convert_bytes_const (P := Try.prog) w 32 5 C n c Try.underlying32 Try.underlying5
  go_enter Try.func9, Try.ntmps9
  go_wp2_with fail
  refine (new_any w).mono ?_
  rintro e w1 ⟨sb, bm, rfl, hsb, hbm, hD1, hg1⟩
  have hs1 := hg1.size
  have hD1' : Dsk w1 sb bm (fun k => k ≠ sb ∧ k ≠ bm) [] [] := hD1.mono (fun k hk => hk.elim) (fun e => e.1 rfl) (fun e => e.2 rfl)
  go_wp2_with fail
  refine (open_fresh w1 (fun k => k < w.heap.size) (fun k hk => by omega) (by omega) (by omega) hD1').mono ?_
  rintro e w2 ⟨lb, sv, rfl, hlb, hL2, hK2⟩
  have hK02 : Kpt (fun k => k < w.heap.size) w w2 := (Kpt.of hg1 (fun k hk => hk) (by simp)).trans hK2
  have hga := World.grownBy_alloc w2 (.cells #[.int .u8 104, .int .u8 105] 5 (2, 3)) none
  have hL3 := hL2.keep hga
  have hb3 := lit_cells w2 [104, 105] (2, 3) (by unfold maxLen; simp) (by decide)
  go_wp2_with fail
  refine (lappend_next _ hL3 (by omega) (by omega) (by simp) [] rfl (by simp) fok_none rfl (by simp) _ 2 2 [104, 105] hb3 hokr (by omega) (by omega) (by omega) (by omega) (.inl rfl)).mono ?_
  rintro e w4 ⟨rfl, ⟨sv', v', hL4⟩, hK4⟩
  have hK04 := (hK02.trans (hL2.kpt0 hga)).trans hK4
  rw [show putS (⟨0 + (([] : List Int).length : Int), v', frm [104, 105], 0⟩ : Sg) [] = [⟨0, v', frm [104, 105], 0⟩] from rfl] at hL4
  go_wp2_with fail
  refine (lread_some w4 hL4 (by simp) (by simp) (by omega) (by omega) 0 rfl rfl 0 rfl 0 rfl ⟨0, v', frm [104, 105], 0⟩ rfl 0 rfl (by omega) (by omega) (by omega) (by omega) (frm [104, 105]) (by rw [frs_one hokr]; rfl) (rgt_frm _)).mono ?_
  rintro e w5 ⟨v5, rfl, hb5, hB5⟩
  have hg5 := below_grown hB5
  have hL5 := hL4.keep hg5
  rw [frm_drop] at hb5
  obtain ⟨a5, cap5, rfl⟩ := hb5.1.shape
  go_wp2_with fail
  refine (read_some w5 hL5.dsk (n := 0) (x := ⟨0, v', frm [104, 105], 0⟩) rfl).mono ?_
  rintro e w6 ⟨v6, rfl, hb6, hg6⟩
  have hL6 := hL5.keep hg6
  have hconv : ∀ W, w6.grownBy W none → (convert 32 9 (.slice a5 2 cap5)).run Try.prog W = .ok (.string (strOfNums [104, 105])) W := fun W hW => run_conv ((hb5.1.grown0 hg6).grown0 hW)
  have hconv6 := hconv w6 (grown_refl _)
  have hst : strOfNums [104, 105] = ⟨#[104, 105]⟩ := by decide
  rw [hst] at hconv6
  dsimp only at hb6
  obtain ⟨a6, cap6, rfl⟩ := hb6.1.shape
  obtain ⟨b6, o6, rfl, hc6⟩ := hb6.1.at (j := 1) (by simp [frm])
  rw [show ((frm [104, 105])[1]?.getD 0 : Int) = 2 from rfl] at hc6
  rw [show (frm [104, 105]).length = 8 from rfl]
  have c4 := hL6.c4
  have hK06 := (hK04.trans (hL4.kpt0 hg5)).trans (hL5.kpt0 hg6)
  go_wp2_with fail
  refine (next_any w6 hL6).mono ?_
  rintro e w7 ⟨rfl, rfl⟩
  go_wp2_with fail
  refine (forced_any _ hL6).mono ?_
  rintro e w7 ⟨rfl, rfl⟩
  go_wp2
  go_ret
  exact ⟨rfl, hK06.below fun k hk => hk⟩
end Go.Proofs.Ytgblekdllcngnaa
