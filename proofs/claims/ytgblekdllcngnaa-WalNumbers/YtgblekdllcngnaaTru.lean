/- What Truncate does. -/
import Derived.Test.YtgblekdllcngnaaTrn
namespace Go.Proofs.Ytgblekdllcngnaa
open Go.RowKit Go.Shelf Plain Go.IntWalk
set_option linter.unusedVariables false

/-- The segments from n on, so many, are gone. -/
def delUp (n : Int) : Nat → List Sg → List Sg
  | 0, l => l
  | j + 1, l => delS (n + j) (delUp n j l)
theorem Up.delUp {l : List Sg} (h : Up l) (n : Int) : ∀ j, Up (delUp n j l)
  | 0 => h
  | j + 1 => (Up.delUp h n j).del _
theorem getS_delUp {l : List Sg} (h : Up l) (n : Int) : ∀ (j : Nat) (k : Int), n + j ≤ k → getS k (delUp n j l) = getS k l
  | 0, _, _ => rfl
  | j + 1, k, hk => by
    rw [delUp, getS_del_other (h.delUp n j) (by omega), getS_delUp h n j k (by omega)]
section
variable {M : Nat → Prop} {lb sb bm : Nat} {sv : Value} {l : List Sg} {root : List Int} {seg : Int} {st : List Int} {size next forced : Int}
set_option maxRecDepth 100000 in
set_option maxHeartbeats 4000000 in
/-- Truncate, where the number is right; G segments go, at least one. -/
theorem truncate_some (w : World) (h : Lgd M w lb sb bm sv l root seg st size next forced) (hs : Hid (st.Pairwise (· < ·))) (hl : st.length ≤ 100000) (h0 : 0 ≤ seg) (h1 : seg ≤ 1000000) (x : Int) (hx : x ≤ 1000000)
    (hx0 : decide (x < fst st next) = false) (hx1 : decide (x > forced) = false) (G : Nat) (hG : Hid (max 0 (hld st x) = G)) (hG1 : 0 < G) (hG2 : G < st.length) (f : Int) (hf : Hid (st[G]? = some f)) (hf0 : 0 ≤ f) (hf1 : f ≤ 1000000) (hall : Hid (∀ j : Nat, j < G → (getS (seg + j) l).isSome = true)) :
    Calls Try.prog 13 #[.pointer (some ⟨lb, 0, none⟩), .int .i64 x] w fun e w' => e = .returned (.int .i64 0) ∧ (∃ sv', Lgd M w' lb sb bm sv' (delUp seg G l) (rootB (seg + G) f) (seg + G) (st.drop G) size next forced) ∧ Kpt M w w' := by
  have c5 := h.c5
  go_enter Try.func13, Try.ntmps13
  go_wp2_with fail
  refine (lfirst_any _ h).mono ?_
  rintro e w1 ⟨rfl, rfl⟩
  go_wp2_with fail
  refine (gone_any _ h hs.out hl h0 (by omega) x (by omega)).mono ?_
  rintro e w2 ⟨i, rfl, hi, hg2⟩
  obtain rfl : i = G := by rw [hi.out, hG.out]
  have h2 := h.keep hg2
  have hK2 := h.kpt0 hg2
  go_wp2_with fail
  refine (lfirst_any _ h2).mono ?_
  rintro e w3 ⟨rfl, rfl⟩
  have c2 := h2.c2
  obtain ⟨g, scap, rfl, hcz⟩ : ∃ g scap, sv = .slice (some ⟨g, 0, none⟩) st.length scap ∧ w3.cell? ⟨g, G, none⟩ = some (.int .i64 f) := by
    rcases h2.row.2 with ⟨_, h0⟩ | ⟨g, cap, cur, e, hb, hg, hn, hm, hs, ht⟩
    · omega
    · refine ⟨g, cap, e, ?_⟩
      have hadd : (⟨g, 0, none⟩ : Addr).add G = ⟨g, G, none⟩ := by unfold Addr.add; split <;> simp_all
      rw [← hadd]
      refine h2.row.cells (g := g) (by rw [e]; rfl) G _ ?_
      rw [List.getElem?_map, hf.out]; rfl
  have hGi : (G : Int) < (st.length : Int) := by omega
  have hGp : decide ((G : Int) > 0) = true := by simp; omega
  have hwr : IntKind.i64.wrap (seg + (G : Int)) = seg + (G : Int) := by rw [IntKind.wrap_i64]; omega
  have hk3 := h2.keep (grown_drew w3)
  have hrl := rootB_length (seg + G) f (by omega) (by omega)
  have c03 := h2.c0
  have c13 := h2.c1
  clear hx0 hx1 hi
  go_wp2_with fail
  go_region_held3 (fun w' => w'.cell? ⟨lb, 0, none⟩ = some (.pointer (some ⟨sb, 0, none⟩)) ∧ w'.cell? ⟨lb, 1, none⟩ = some (.int .i64 seg))
    (first
      | go_keep
      | exact ⟨hL5.c0, hL5.c1⟩
      | exact ⟨(hk3.keep (below_grown hB4)).c0, (hk3.keep (below_grown hB4)).c1⟩)
    (first
      | (go_at_call 35
         refine (newRoot_any (seg + G) f (by omega) (by omega) (by omega) (by omega) _).mono ?_
         rintro e w4 ⟨v4, rfl, hb4, hB4⟩
         obtain ⟨a4, cap4, rfl⟩ := hb4.shape)
      | (go_at_call 34
         refine (swap_ok w4 (hk3.keep (below_grown hB4)).dsk _ (rootB (seg + G) f) hb4 (by omega)).mono ?_
         rintro e w5 ⟨rfl, hD5, hg5⟩
         have hL5 := (hk3.keep (below_grown hB4)).swap hg5 hD5
         have hK5 := ((hK2.trans (h2.kpt0 (grown_drew w3))).trans (hk3.kpt0 (below_grown hB4))).trans ((hk3.keep (below_grown hB4)).kpts hg5)))
  have hup := h.dsk.up
  have HU : Hid (Up l) := hup
  clear hup c03 c13 c2 c5 hcz hwr hk3 h2 hK2
  go_wp2_with fail
  go_loopw [56] (fun i wr => ∃ j : Nat, j ≤ G ∧ i = .int .i64 j ∧ Lgd M wr lb sb bm (.slice (some ⟨g, 0, none⟩) st.length scap) (delUp seg j l) (rootB (seg + G) f) seg st size next forced ∧ Kpt M w1 wr) (fun i _ => G - (intOf i).toNat)
  case atStart => exact ⟨0, Nat.zero_le _, rfl, hL5, hK5⟩
  case round =>
    obtain ⟨j, hj, rfl, hLj, hKj⟩ := hrel
    by_cases hlt : j < G
    · obtain ⟨y, hy⟩ : ∃ y, getS (seg + j) (delUp seg j l) = some y := by
        rw [getS_delUp HU.out seg j (seg + j) (Int.le_refl _)]
        exact Option.isSome_iff_exists.1 (hall.out j hlt)
      have c0 := hLj.c0
      have c1 := hLj.c1
      have hkj := hLj.keep (grown_drew wr)
      have hwj : IntKind.i64.wrap (seg + (j : Int)) = seg + (j : Int) := by rw [IntKind.wrap_i64]; omega
      have hjG : decide ((j : Int) < (G : Int)) = true := by simp; omega
      go_wp2_with fail
      go_region_held3 (fun w' => w'.cell? ⟨lb, 0, none⟩ = some (.pointer (some ⟨sb, 0, none⟩)) ∧ w'.cell? ⟨lb, 1, none⟩ = some (.int .i64 seg))
        (first
          | go_keep
          | exact ⟨hL6.c0, hL6.c1⟩)
        ((go_at_call 36
          refine (remove_some _ hkj.dsk hy).mono ?_
          rintro e w6 ⟨rfl, hD6, hg6⟩
          have hL6 := hkj.disk hg6 (hD6.wide' hg6 hkj)
          have hK6 := (hKj.trans (hLj.kpt0 (grown_drew wr))).trans (hkj.kptm hg6)))
      all_goals
        go_wp2
        go_roundw
        case rel => exact ⟨j + 1, by omega, by go_num, hL6, hK6⟩
        case measure => simp [intOf]; omega
    · obtain rfl : j = G := by omega
      have hjG : decide ((j : Int) < (j : Int)) = false := by simp
      have c1 := hLj.c1
      have f1 := hLj.fz 1
      obtain ⟨hc, hKc⟩ := hLj.cell 1 (.int .i64 (seg + (j : Int))) (seg' := seg + (j : Int)) (size' := size) (next' := next) (forced' := forced) rfl
      have c2 : wr.cell? ⟨lb, 2, none⟩ = some (.slice (some ⟨g, 0, none⟩) st.length scap) := hLj.c2
      go_wp2_with fail
      refine (delete_starts _ _ st j (by omega) hl hc.row).mono ?_
      rintro e w7 ⟨sv', rfl, hob, hrow7, hg7⟩
      obtain ⟨h8, hK8, c27, f27, _⟩ := hc.starts hrow7 hg7 (.inl hob)
      obtain ⟨sa', scap', rfl, _⟩ := own_shape hrow7
      simp only [List.length_drop] at h8 hK8
      go_wp2
      go_ret
      exact ⟨rfl, ⟨_, h8⟩, (hKj.trans hKc).trans hK8⟩
end
end Go.Proofs.Ytgblekdllcngnaa
