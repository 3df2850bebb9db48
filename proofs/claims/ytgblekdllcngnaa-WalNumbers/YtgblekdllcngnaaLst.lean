/- A log with its records: how it lies on its disk, what Open finds, what power leaves. -/
import Derived.Test.YtgblekdllcngnaaPlg
import Derived.Test.YtgblekdllcngnaaFul
import Derived.Test.YtgblekdllcngnaaTru
import Derived.Test.YtgblekdllcngnaaRdd
import Derived.Test.YtgblekdllcngnaaActs
namespace Go.Proofs.Ytgblekdllcngnaa
open Go.RowKit Go.Shelf Plain Go.IntWalk
set_option linter.unusedVariables false
set_option linter.unusedSimpArgs false

/-- How the last segment stands: its bytes, and how much of it is forced. -/
def Tl (gs : List (List (List Int))) (l : List Sg) (size : Int) (fs F : Nat) : Prop :=
  (gs = [] ∧ F = fs ∧ size = 0) ∨ ∃ gi g j, gs = gi ++ [g] ∧ (∀ h ∈ gi, h ≠ []) ∧ size = ((frms g).length : Int) ∧ j ≤ g.length ∧ F = fs + (cs gi).sum + j ∧
    ∀ (i : Nat) (x : Sg), l[i]? = some x → x.s = if i < gi.length then (x.b.length : Int) else ((frms (g.take j)).length : Int)
structure Lgs (M : Nat → Prop) (w : World) (lb sb bm : Nat) (gs : List (List (List Int))) (seg fs F : Nat) : Prop where
  ex : ∃ sv l root size, Lgd M w lb sb bm sv l root seg (stC fs (cs gs)) size ((fs + (cs gs).sum : Nat) : Int) F ∧ Sq seg (gs.map frms) l ∧ Rt root seg fs ∧ Tl gs l size fs F
  ok : ∀ g ∈ gs, ∀ r ∈ g, okR r
  le : seg ≤ fs
  top : fs + (cs gs).sum ≤ 1000
def NoE (gs : List (List (List Int))) : Prop := ∀ g ∈ gs, g ≠ []
theorem fst_stC (c : List Nat) (fs : Nat) : fst (stC fs c) ((fs + c.sum : Nat) : Int) = fs := by
  cases c with
  | nil => simp [fst, stC]
  | cons c cs => simp [fst, stC]
theorem cf {h : List (List Int)} (hok : ∀ r ∈ h, okR r) : cnt (frms h) = h.length ∧ msz (frms h) = (frms h).length := by
  have h1 := cnt_frms hok fsz_nil
  have h2 := msz_frms hok fsz_nil
  rw [List.append_nil] at h1 h2
  exact ⟨h1, h2⟩
theorem frms_ne {h : List (List Int)} (hn : h ≠ []) : frms h ≠ [] := fun e => by
  have := frms_pos hn
  rw [e] at this; simp at this
theorem scan_gs {gi : List (List (List Int))} {g : List (List Int)} {t : List Int} {bs : List (List Int)} {k : Nat} (hbs : bs = gi.map frms ++ [frms g ++ t]) (hgi : ∀ h ∈ gi, h ≠ []) (hok : ∀ h ∈ gi ++ [g], ∀ r ∈ h, okR r) (ht : fsz t = 0) (hne : frms g ++ t ≠ [])
    (hT : Tk bs k) (hS : Stop bs k) : ∃ gs', (gs' = gi ++ [g] ∨ (gs' = gi ∧ g = [] ∧ gi ≠ [])) ∧ k = gs'.length ∧ (bs.take k).map cnt = cs gs' ∧ (bs.take k).map cut_ = gs'.map frms ∧ szK bs k = ((frms (gs'.getLastD [])).length : Int) := by
  have hA : ∀ i (h : i < gi.length), bs[i]? = some (frms gi[i]) := fun i h => by
    rw [hbs, List.getElem?_append_left (by simpa using h), List.getElem?_map, List.getElem?_eq_getElem h]; rfl
  have hB : bs[gi.length]? = some (frms g ++ t) := by rw [hbs, List.getElem?_append_right (by simp)]; simp
  have hlen : bs.length = gi.length + 1 := by rw [hbs]; simp
  have hokg : ∀ r ∈ g, okR r := hok g (by simp)
  have hoki : ∀ h ∈ gi, ∀ r ∈ h, okR r := fun h hh => hok h (by simp [hh])
  have hkn := hT.le
  have hwt : 0 < k → k ≤ gi.length → wb bs k = true := fun h0 h1 => by
    have hi : k - 1 < gi.length := by omega
    unfold wb
    rw [hA (k - 1) hi, Option.getD_some, (cf (hoki _ (List.getElem_mem hi))).2]
    simp
  have hcg : cnt (frms g ++ t) = g.length := cnt_frms hokg ht
  have hmg : msz (frms g ++ t) = (frms g).length := msz_frms hokg ht
  have hge : gi.length ≤ k := by
    refine Nat.le_of_not_lt fun hlt => ?_
    have hn := hgi _ (List.getElem_mem hlt)
    rcases hS with h | h | ⟨h, h0⟩
    · by_cases h0 : k = 0
      · subst h0; simp [wb] at h
      · rw [hwt (by omega) (by omega)] at h; cases h
    · rw [hA k hlt, Option.getD_some] at h; exact frms_ne hn h
    · rw [hA k hlt, Option.getD_some, (cf (hoki _ (List.getElem_mem hlt))).1] at h
      exact hn (List.length_eq_zero_iff.1 h)
  have hci : (gi.map frms).map cnt = cs gi := by
    rw [List.map_map]; unfold cs
    exact List.map_congr_left fun h hh => (cf (hoki h hh)).1
  have hmi : (gi.map frms).map cut_ = gi.map frms := by
    rw [List.map_map]
    exact List.map_congr_left fun h hh => by
      show (frms h).take (msz (frms h)) = frms h
      rw [(cf (hoki h hh)).2, List.take_length]
  by_cases hk : k = gi.length
  · rcases hS with h | h | ⟨h, h0⟩
    · by_cases h0 : k = 0
      · rw [h0] at h; simp [wb] at h
      · rw [hwt (by omega) (by omega)] at h; cases h
    · rw [hk, hB, Option.getD_some] at h; exact absurd h hne
    · rw [hk, hB, Option.getD_some, hcg] at h
      have hgn : gi ≠ [] := fun e => by rw [e] at hk; simp at hk; omega
      have htk : bs.take k = gi.map frms := by rw [hk, hbs]; rw [List.take_left' (by simp)]
      refine ⟨gi, .inr ⟨rfl, List.length_eq_zero_iff.1 h, hgn⟩, hk, by rw [htk, hci], by rw [htk, hmi], ?_⟩
      have hi : k - 1 < gi.length := by omega
      unfold szK
      rw [if_neg (by omega), hA (k - 1) hi, Option.getD_some, (cf (hoki _ (List.getElem_mem hi))).2]
      congr 3
      rw [List.getLastD_eq_getLast?, List.getLast?_eq_getElem?, List.getElem?_eq_getElem (by omega : gi.length - 1 < gi.length)]
      simp [hk]
  · have hk1 : k = gi.length + 1 := by omega
    have htk : bs.take k = gi.map frms ++ [frms g ++ t] := by rw [hk1, ← hlen, List.take_length, hbs]
    refine ⟨gi ++ [g], .inl rfl, by simp [hk1], ?_, ?_, ?_⟩
    · rw [htk, List.map_append, hci, cs_append]
      simp [cs, hcg]
    · rw [htk, List.map_append, hmi, List.map_append]
      congr 1
      simp only [List.map_cons, List.map_nil, cut_, hmg, List.take_left]
    · rw [hk1, szK_succ hB, hmg]
      simp [List.getLastD_eq_getLast?]
/-- What Open may meet: frames, at the end a part of one. -/
def Bsf (bs : List (List Int)) (gs0 : List (List (List Int))) : Prop := (bs = [] ∧ gs0 = []) ∨ ∃ gi g t, gs0 = gi ++ [g] ∧ bs = gi.map frms ++ [frms g ++ t] ∧ (∀ h ∈ gi, h ≠ []) ∧ fsz t = 0 ∧ frms g ++ t ≠ []
theorem open_any (w : World) {sb bm : Nat} (M : Nat → Prop) (hm : ∀ k, M k → k < w.heap.size) (m2 : ¬ M sb) (m3 : ¬ M bm) {l : List Sg} {root : List Int} (h : Dsk w sb bm (fun k => k ≠ sb ∧ k ≠ bm ∧ ¬ M k) l root)
    (seg fs : Nat) (hle : seg ≤ fs) (hrt : Rt root seg fs) (bs : List (List Int)) (hq : Sq seg bs l) (hsafe : ∀ x ∈ l, x.s = x.b.length) (gs0 : List (List (List Int))) (hbs : Bsf bs gs0) (hok : ∀ g ∈ gs0, ∀ r ∈ g, okR r) (htop : fs + gs0.flatten.length ≤ 1000) :
    Calls Try.prog 8 #[.pointer (some ⟨sb, 0, none⟩)] w fun e w' => ∃ lb gs', e = .returned (.tuple #[.pointer (some ⟨lb, 0, none⟩), .int .i64 0]) ∧ w.heap.size ≤ lb ∧ Lgs M w' lb sb bm gs' seg fs (fs + (cs gs').sum) ∧ gs'.flatten = gs0.flatten ∧ (NoE gs0 → gs' = gs0) ∧ Kpt M w w' := by
  refine (open_scan w M hm m2 m3 h seg fs (by omega) (by omega) hrt bs hq hsafe).mono ?_
  rintro e w' ⟨lb, sv, k, l', rfl, hlb, hT, hS, hL, hq', hs', hK⟩
  rcases hbs with ⟨rfl, rfl⟩ | ⟨gi, g, t, rfl, hbs, hgi, ht, hne⟩
  · obtain rfl : k = 0 := by have := hT.le; simpa using this
    refine ⟨lb, [], rfl, hlb, ⟨⟨sv, l', root, 0, ?_, hq', hrt, .inl ⟨rfl, rfl, rfl⟩⟩, by simp, hle, by simpa [cs] using htop⟩, rfl, fun _ => rfl, hK⟩
    simpa [szK, cs] using hL
  · obtain ⟨gs', hgs, hk, h1, h2, h3⟩ := scan_gs hbs hgi hok ht hne hT hS
    have hfl : gs'.flatten = (gi ++ [g]).flatten := by
      rcases hgs with rfl | ⟨rfl, rfl, _⟩
      · rfl
      · simp
    have hok' : ∀ h ∈ gs', ∀ r ∈ h, okR r := by
      rcases hgs with rfl | ⟨rfl, rfl, _⟩
      · exact hok
      · exact fun h hh => hok h (by simp [hh])
    refine ⟨lb, gs', rfl, hlb, ⟨⟨sv, l', root, szK bs k, ?_, ?_, hrt, ?_⟩, hok', hle, by rw [cs_sum, hfl]; exact htop⟩, hfl, fun hn => ?_, hK⟩
    · rw [h1] at hL; exact hL
    · rw [h2] at hq'; exact hq'
    · right
      rw [h2] at hq'
      obtain ⟨gi', g', e, hg'⟩ : ∃ gi' g', gs' = gi' ++ [g'] ∧ ∀ h ∈ gi', h ≠ [] := by
        rcases hgs with rfl | ⟨rfl, _, hn⟩
        · exact ⟨gi, g, rfl, hgi⟩
        · exact ⟨gs'.dropLast, gs'.getLast hn, (List.dropLast_concat_getLast hn).symm, fun h hh => hgi h ((List.dropLast_sublist _).subset hh)⟩
      refine ⟨gi', g', g'.length, e, hg', ?_, Nat.le_refl _, ?_, fun i x hx => ?_⟩
      · rw [h3, e]; simp [List.getLastD_eq_getLast?]
      · rw [e, cs_append, List.sum_append]; simp [cs]; omega
      · rw [hs' x (List.mem_of_getElem? hx)]
        split
        · rfl
        · next hi =>
          have hi2 : i < l'.length := (List.getElem?_eq_some_iff.1 hx).1
          have h5 := hq'.1
          rw [e] at h5
          simp at h5
          obtain rfl : i = gi'.length := by omega
          have h6 := (hq'.2 _ x hx).2
          rw [e, List.map_append, List.getElem?_append_right (by simp)] at h6
          simp at h6
          rw [← h6, List.take_length]
    · rcases hgs with rfl | ⟨rfl, rfl, _⟩
      · rfl
      · exact absurd rfl (hn [] (by simp))
end Go.Proofs.Ytgblekdllcngnaa

/- Truncate where nothing goes, Truncate of what is not forced, Read of what is gone. -/
namespace Go.Proofs.Ytgblekdllcngnaa
open Go.RowKit Go.Shelf Plain Go.IntWalk
set_option linter.unusedVariables false
section
variable {M : Nat → Prop} {lb sb bm : Nat} {sv : Value} {l : List Sg} {root : List Int} {seg : Int} {st : List Int} {size next forced : Int}
set_option maxRecDepth 100000 in
set_option maxHeartbeats 4000000 in
theorem truncate_zero (w : World) (h : Lgd M w lb sb bm sv l root seg st size next forced) (hs : Hid (st.Pairwise (· < ·))) (hl : st.length ≤ 100000) (h0 : 0 ≤ seg) (h1 : seg ≤ 1000000) (x : Int) (hx : x ≤ 1000000)
    (hx0 : decide (x < fst st next) = false) (hx1 : decide (x > forced) = false) (hG : Hid (max 0 (hld st x) = 0)) (f : Int) (hf : Hid (fst st next = f)) (hf0 : 0 ≤ f) (hf1 : f ≤ 1000000) :
    Calls Try.prog 13 #[.pointer (some ⟨lb, 0, none⟩), .int .i64 x] w fun e w' => e = .returned (.int .i64 0) ∧ (∃ sv', Lgd M w' lb sb bm sv' l (rootB seg f) seg st size next forced) ∧ Kpt M w w' := by
  have c5 := h.c5
  go_enter Try.func13, Try.ntmps13
  go_wp2_with fail
  refine (lfirst_any _ h).mono ?_
  rintro e w1 ⟨rfl, rfl⟩
  go_wp2_with fail
  refine (gone_any _ h hs.out hl h0 (by omega) x (by omega)).mono ?_
  rintro e w2 ⟨i, rfl, hi, hg2⟩
  obtain rfl : i = 0 := by rw [hi.out, hG.out]
  have h2 := h.keep hg2
  have hK2 := h.kpt0 hg2
  go_wp2_with fail
  refine (lfirst_any _ h2).mono ?_
  rintro e w3 ⟨rfl, rfl⟩
  rw [hf.out]
  have c2 := h2.c2
  have hw0 : IntKind.i64.wrap seg = seg := by rw [IntKind.wrap_i64]; omega
  have hwr : IntKind.i64.wrap (seg + 0) = seg := by rw [IntKind.wrap_i64]; omega
  have hk3 := h2.keep (grown_drew w3)
  have hrl := rootB_length seg f (by omega) (by omega)
  have c03 := h2.c0
  have c13 := h2.c1
  clear hx0 hx1 hi
  go_wp2_with fail
  go_region_held3 (fun w' => w'.cell? ⟨lb, 0, none⟩ = some (.pointer (some ⟨sb, 0, none⟩)) ∧ w'.cell? ⟨lb, 1, none⟩ = some (.int .i64 seg))
    (first
      | go_keep
      | exact ⟨hL5.c0, hL5.c1⟩
      | exact ⟨(hk3.keep (below_grown hB4)).c0, (hk3.keep (below_grown hB4)).c1⟩)
    (first
      | (go_at_call 35
         refine (newRoot_any seg f (by omega) (by omega) (by omega) (by omega) _).mono ?_
         rintro e w4 ⟨v4, rfl, hb4, hB4⟩
         obtain ⟨a4, cap4, rfl⟩ := hb4.shape)
      | (go_at_call 34
         refine (swap_ok w4 (hk3.keep (below_grown hB4)).dsk _ (rootB seg f) hb4 (by omega)).mono ?_
         rintro e w5 ⟨rfl, hD5, hg5⟩
         have hL5 := (hk3.keep (below_grown hB4)).swap hg5 hD5
         have hK5 := ((hK2.trans (h2.kpt0 (grown_drew w3))).trans (hk3.kpt0 (below_grown hB4))).trans ((hk3.keep (below_grown hB4)).kpts hg5)))
  clear c03 c13 c2 c5 hk3 h2 hK2
  go_wp2_with fail
  refine wp_loop_rounds 1 ?_
  rw [rounds_succ]
  have c1 := hL5.c1
  have f1 := hL5.fz 1
  obtain ⟨hc, hKc⟩ := hL5.cell 1 (.int .i64 seg) (seg' := seg) (size' := size) (next' := next) (forced' := forced) rfl
  have c2 := hc.c2
  have c25 := hL5.c2
  obtain ⟨sa, scap, rfl, _⟩ := own_shape hL5.row
  go_wp2_with fail
  refine (delete_starts _ _ st 0 (by omega) hl hc.row).mono ?_
  rintro e w7 ⟨sv', rfl, hob, hrow7, hg7⟩
  rw [List.drop_zero] at hrow7
  obtain ⟨h8, hK8, c27, f27, _⟩ := hc.starts hrow7 hg7 (.inl hob)
  obtain ⟨sa', scap', rfl, _⟩ := own_shape hrow7
  go_wp2
  go_ret
  exact ⟨rfl, ⟨_, h8⟩, (hK5.trans hKc).trans hK8⟩
set_option maxRecDepth 100000 in
set_option maxHeartbeats 1000000 in
theorem truncate_bad (w : World) (h : Lgd M w lb sb bm sv l root seg st size next forced) (x : Int) (hx0 : decide (x < fst st next) = false) (hx1 : decide (x > forced) = true) :
    Calls Try.prog 13 #[.pointer (some ⟨lb, 0, none⟩), .int .i64 x] w fun e w' => e = .returned (.int .i64 1) ∧ w' = w := by
  have c5 := h.c5
  go_enter Try.func13, Try.ntmps13
  go_wp2_with fail
  refine (lfirst_any _ h).mono ?_
  rintro e w1 ⟨rfl, rfl⟩
  go_wp2
  go_ret
  exact ⟨rfl, rfl⟩
set_option maxRecDepth 100000 in
set_option maxHeartbeats 1000000 in
theorem lread_low (w : World) (h : Lgd M w lb sb bm sv l root seg st size next forced) (x : Int) (hx0 : decide (x < fst st next) = true) :
    Calls Try.prog 19 #[.pointer (some ⟨lb, 0, none⟩), .int .i64 x] w fun e W' => e = .returned (.tuple #[.slice none 0 0, .int .i64 42]) ∧ Below w.heap.size w W' := by
  have hga := World.grownBy_alloc w (.cells #[.slice none 0 0] 32) none
  have hgb := World.grownBy_alloc (w.alloc (.cells #[.slice none 0 0] 32)) (.cells #[.int .i64 0] 28) none
  have h2 := (h.keep hga).keep hgb
  go_enter Try.func19, Try.ntmps19
  go_wp2_with fail
  refine (lfirst_any _ h2).mono ?_
  rintro e w1 ⟨rfl, rfl⟩
  go_wp2
  refine bodyPost_ret (v := .tuple #[.slice none 0 0, .int .i64 42]) (by simp [results, go_sem]) rfl ⟨rfl, ?_⟩
  exact ((Below.refl _ w).alloc (Nat.le_refl _) _).alloc (by simp) _
end
end Go.Proofs.Ytgblekdllcngnaa

/- A log with its records: what the calls answer, and what they make of it. -/
namespace Go.Proofs.Ytgblekdllcngnaa
open Go.RowKit Go.Shelf Plain Go.IntWalk
set_option linter.unusedVariables false
set_option linter.unusedSimpArgs false
section
variable {M : Nat → Prop} {w w' : World} {lb sb bm : Nat} {gs : List (List (List Int))} {seg fs F : Nat}
theorem Lgs.keep (h : Lgs M w lb sb bm gs seg fs F) (hg : w.grownBy w' none) : Lgs M w' lb sb bm gs seg fs F := by
  obtain ⟨⟨sv, l, root, size, hL, hr⟩, ok, le, top⟩ := h
  exact ⟨⟨sv, l, root, size, hL.keep hg, hr⟩, ok, le, top⟩
theorem Lgs.kpt0 (h : Lgs M w lb sb bm gs seg fs F) (hg : w.grownBy w' none) : Kpt M w w' := by
  obtain ⟨⟨sv, l, root, size, hL, hr⟩, ok, le, top⟩ := h
  exact hL.kpt0 hg
theorem Lgs.more (h : Lgs M w lb sb bm gs seg fs F) (hg : w.grownBy w' none) : Lgs (And_ M w w') w' lb sb bm gs seg fs F := by
  obtain ⟨⟨sv, l, root, size, hL, hr⟩, ok, le, top⟩ := h
  exact ⟨⟨sv, l, root, size, hL.more hg, hr⟩, ok, le, top⟩
theorem Lgs.foreign {row : Option Nat} (h : Lgs M w lb sb bm gs seg fs F) (hg : w.grownBy w' row) (hr : ∀ k, row = some k → M k) : Lgs (And_ M w w') w' lb sb bm gs seg fs F := by
  obtain ⟨⟨sv, l, root, size, hL, hrr⟩, ok, le, top⟩ := h
  exact ⟨⟨sv, l, root, size, hL.foreign hg hr, hrr⟩, ok, le, top⟩
theorem Lgs.less {M' : Nat → Prop} (h : Lgs M w lb sb bm gs seg fs F) (hm : ∀ k, M' k → M k) : Lgs M' w lb sb bm gs seg fs F := by
  obtain ⟨⟨sv, l, root, size, hL, hr⟩, ok, le, top⟩ := h
  exact ⟨⟨sv, l, root, size, hL.less hm, hr⟩, ok, le, top⟩
theorem Lgs.mlt (h : Lgs M w lb sb bm gs seg fs F) : ∀ k, M k → k < w.heap.size := by
  obtain ⟨⟨sv, l, root, size, hL, hr⟩, ok, le, top⟩ := h
  exact hL.mlt
theorem ls_next (w : World) (h : Lgs M w lb sb bm gs seg fs F) : Calls Try.prog 16 #[.pointer (some ⟨lb, 0, none⟩)] w fun r w' => r = .returned (.int .i64 ((fs + (cs gs).sum : Nat) : Int)) ∧ w' = w := by
  obtain ⟨⟨sv, l, root, size, hL, hr⟩, ok, le, top⟩ := h
  exact next_any w hL
theorem ls_forced (w : World) (h : Lgs M w lb sb bm gs seg fs F) : Calls Try.prog 18 #[.pointer (some ⟨lb, 0, none⟩)] w fun r w' => r = .returned (.int .i64 (F : Int)) ∧ w' = w := by
  obtain ⟨⟨sv, l, root, size, hL, hr⟩, ok, le, top⟩ := h
  exact forced_any w hL
theorem ls_first (w : World) (h : Lgs M w lb sb bm gs seg fs F) : Calls Try.prog 14 #[.pointer (some ⟨lb, 0, none⟩)] w fun r w' => r = .returned (.int .i64 (fs : Int)) ∧ w' = w := by
  obtain ⟨⟨sv, l, root, size, hL, hr⟩, ok, le, top⟩ := h
  have := lfirst_any w hL
  rwa [fst_stC] at this
theorem set_same {α : Type} (l : List α) (i : Nat) (x : α) (h : l[i]? = some x) : l.set i x = l := by
  have hi := (List.getElem?_eq_some_iff.1 h).1
  apply List.ext_getElem?
  intro j
  by_cases e : j = i
  · subst e; rw [List.getElem?_set_self hi, h]
  · rw [List.getElem?_set_ne (by omega)]
theorem last_get {gi : List (List (List Int))} {g : List (List Int)} {l : List Sg} {sg : Int} (hq : Sq sg ((gi ++ [g]).map frms) l) : ∃ x, l[gi.length]? = some x ∧ getS (sg + (gi.length : Int)) l = some x ∧ x.b = frms g ∧ x.n = sg + (gi.length : Int) := by
  obtain ⟨x, h1, h2, h3⟩ := hq.get (i := gi.length) (by simp)
  refine ⟨x, h1, h2, ?_, (hq.2 _ x h1).1⟩
  rw [List.map_append, List.getElem?_append_right (by simp)] at h3
  simp at h3
  exact h3.symm
theorem st_len (fs : Nat) (gi : List (List (List Int))) (g : List (List Int)) : (stC fs (cs (gi ++ [g]))).length = gi.length + 1 := by rw [stC_length, cs_length]; simp
theorem Tl.F_le {l : List Sg} {size : Int} (h : Tl gs l size fs F) : F ≤ fs + (cs gs).sum := by
  rcases h with ⟨rfl, rfl, _⟩ | ⟨gi, g, j, rfl, _, _, hj, rfl, _⟩
  · omega
  · rw [cs_append, List.sum_append]; simp [cs]; omega
theorem Lgs.F_le (h : Lgs M w lb sb bm gs seg fs F) : F ≤ fs + (cs gs).sum := by
  obtain ⟨⟨sv, l, root, size, hL, hq, hr, ht⟩, ok, le, top⟩ := h
  exact ht.F_le
/-- What Force leaves of the disk. -/
theorem ls_fok {sv : Value} {l : List Sg} {root : List Int} {size : Int} (hq : Sq seg (gs.map frms) l) (ht : Tl gs l size fs F) (hs : seg ≤ 1000) (hl : l.length ≤ 128) :
    ∃ l2, FOk lb sb bm sv l root seg (stC fs (cs gs)) size ((fs + (cs gs).sum : Nat) : Int) F l2 ∧ Sq seg (gs.map frms) l2 ∧ ∀ x ∈ l2, x.s = x.b.length := by
  rcases ht with ⟨rfl, rfl, rfl⟩ | ⟨gi, g, j, rfl, hgi, rfl, hj, rfl, hx⟩
  · refine ⟨l, fok_none, hq, fun x hx => ?_⟩
    have := hq.1
    simp at this
    rw [this] at hx; cases hx
  · obtain ⟨x, h1, h2, h3, h4⟩ := last_get hq
    have hln := hq.1
    simp at hln
    have e1 : (seg : Int) + ((stC fs (cs (gi ++ [g]))).length : Int) - 1 = seg + (gi.length : Int) := by rw [st_len]; omega
    have hf := fok_some (lb := lb) (sb := sb) (bm := bm) (sv := sv) (root := root) (size := ((frms g).length : Int)) (next := ((fs + (cs (gi ++ [g])).sum : Nat) : Int)) (forced := ((fs + (cs gi).sum + j : Nat) : Int)) (seg := (seg : Int)) (st := stC fs (cs (gi ++ [g]))) (l := l) (x := x) (by omega) (by omega) (by rw [st_len]; omega) (by rw [st_len]; omega) (by rw [e1]; exact h2)
    rw [e1] at hf
    obtain ⟨e2, hq2⟩ := hq.at (i := gi.length) (x := ⟨seg + (gi.length : Int), x.v, x.b, x.b.length⟩) (by simp) rfl
    have e3 : ((gi ++ [g]).map frms).set gi.length x.b = (gi ++ [g]).map frms := set_same _ _ _ (hq.2 _ x h1).2
    unfold syncS at hf
    rw [e2] at hf
    rw [e3] at hq2
    refine ⟨_, hf, hq2, fun y hy => ?_⟩
    obtain ⟨i, hi, rfl⟩ := List.mem_iff_getElem.1 hy
    have hi2 : i < l.length := by simpa using hi
    rw [List.getElem_set]
    split
    · rfl
    · have := hx i _ (List.getElem?_eq_getElem hi2)
      rw [if_pos (by omega)] at this
      exact this
theorem Tl.safe {l : List Sg} {size : Int} (hq : Sq (seg : Int) (gs.map frms) l) (ht : Tl gs l size fs F) {l2 : List Sg} (hq2 : Sq (seg : Int) (gs.map frms) l2) (h : ∀ x ∈ l2, x.s = x.b.length) : Tl gs l2 size fs (fs + (cs gs).sum) := by
  rcases ht with ⟨rfl, rfl, rfl⟩ | ⟨gi, g, j, rfl, hgi, rfl, hj, rfl, hx⟩
  · exact .inl ⟨rfl, by simp [cs], rfl⟩
  · refine .inr ⟨gi, g, g.length, rfl, hgi, rfl, Nat.le_refl _, ?_, fun i x hx => ?_⟩
    · rw [cs_append, List.sum_append]; simp [cs]; omega
    · rw [h x (List.mem_of_getElem? hx)]
      split
      · rfl
      · have hi2 : i < l2.length := (List.getElem?_eq_some_iff.1 hx).1
        have h5 := hq2.1
        simp at h5
        obtain rfl : i = gi.length := by omega
        obtain ⟨y, h1, _, h3, _⟩ := last_get hq2
        rw [h1] at hx; cases hx
        rw [h3, List.take_length]
theorem ls_force (w : World) (h : Lgs M w lb sb bm gs seg fs F) :
    Calls Try.prog 12 #[.pointer (some ⟨lb, 0, none⟩)] w fun r w' => r = .returned (.int .i64 0) ∧ Lgs M w' lb sb bm gs seg fs (fs + (cs gs).sum) ∧ Kpt M w w' := by
  obtain ⟨⟨sv, l, root, size, hL, hq, hr, ht⟩, ok, le, top⟩ := h
  obtain ⟨l2, hF, hq2, hs2⟩ := ls_fok (lb := lb) (sb := sb) (bm := bm) (sv := sv) (root := root) hq ht (by omega) hL.dsk.len
  refine (hF M w hL).mono ?_
  rintro r w' ⟨rfl, hL', hK⟩
  exact ⟨rfl, ⟨⟨sv, l2, root, size, hL', hq2, hr, ht.safe hq hq2 hs2⟩, ok, le, top⟩, hK⟩
theorem frms_one (r : List Int) : frms [r] = frm r := by simp [frms]
theorem stC_last (fs c d : Nat) (c0 : List Nat) : stC fs (c0 ++ [c]) = stC fs (c0 ++ [d]) := by rw [stC_snoc, stC_snoc]
theorem ls_append (w : World) (h : Lgs M w lb sb bm gs seg fs F) (hn : NoE gs) (hc : fs + (cs gs).sum < 100) (a : Option Addr) (len cap : Nat) (r : List Int) (hb : Bts w.heap.size w (.slice a len cap) r) (hr : okR r) :
    Calls Try.prog 10 #[.pointer (some ⟨lb, 0, none⟩), .slice a len cap] w fun e w' => e = .returned (.tuple #[.int .i64 ((fs + (cs gs).sum : Nat) : Int), .int .i64 0]) ∧ (∃ gs' F', Lgs M w' lb sb bm gs' seg fs F' ∧ NoE gs' ∧ gs'.flatten = gs.flatten ++ [r]) ∧ Kpt M w w' := by
  obtain ⟨⟨sv, l, root, size, hL, hq, hrt, ht⟩, ok, le, top⟩ := h
  have hlen := hb.len
  have hgl : gs.length ≤ (cs gs).sum := by have := len_le_sum (cs gs) (cs_pos hn); rwa [cs_length] at this
  have hll : l.length = gs.length := by have := hq.1; simpa using this
  have hsl : (stC fs (cs gs)).length = gs.length := by rw [stC_length, cs_length]
  by_cases hfit : ∃ gi g, gs = gi ++ [g] ∧ size + 6 + len ≤ 1024
  · obtain ⟨gi, g, rfl, hfit⟩ := hfit
    rcases ht with ⟨e, _⟩ | ⟨gi', g', j, e, hgi, rfl, hj, rfl, hx⟩
    · simp at e
    obtain ⟨rfl, rfl⟩ : gi = gi' ∧ g = g' := by
      have := List.append_inj' e rfl
      exact ⟨this.1, by simpa using this.2⟩
    obtain ⟨x, h1, h2, h3, h4⟩ := last_get hq
    have e1 : (seg : Int) + ((stC fs (cs (gi ++ [g]))).length : Int) - 1 = seg + (gi.length : Int) := by rw [st_len]; omega
    refine (lappend_last w hL (by omega) (by omega) (by rw [st_len]; omega) (by rw [st_len]; simp at hgl; omega) (x := x) (by rw [e1]; exact h2) a len cap r hb hr (by show _ = _; rw [h3]) (by omega) (by omega) hfit).mono ?_
    rintro e w' ⟨rfl, ⟨v', hL'⟩, hK⟩
    rw [e1] at hL'
    obtain ⟨e2, hq2⟩ := hq.at (i := gi.length) (x := ⟨seg + (gi.length : Int), v', x.b ++ frm r, x.s⟩) (by simp) rfl
    rw [e2] at hL'
    have e3 : ((gi ++ [g]).map frms).set gi.length (x.b ++ frm r) = (gi ++ [g ++ [r]]).map frms := by
      rw [h3, ← frms_snoc]; simp
    rw [e3] at hq2
    have e4 : cs (gi ++ [g ++ [r]]) = cs gi ++ [g.length + 1] := by simp [cs]
    have e5 : cs (gi ++ [g]) = cs gi ++ [g.length] := by simp [cs]
    refine ⟨rfl, ⟨gi ++ [g ++ [r]], fs + (cs gi).sum + j, ⟨⟨sv, _, root, ((frms g).length : Int) + (6 + (len : Int)), ?_, hq2, hrt, ?_⟩, ?_, le, ?_⟩, ?_, by simp⟩, hK⟩
    · have e6 : ((fs + (cs (gi ++ [g ++ [r]])).sum : Nat) : Int) = ((fs + (cs (gi ++ [g])).sum : Nat) : Int) + 1 := by rw [e4, e5, List.sum_append, List.sum_append]; simp; omega
      rw [e6, e4, stC_last fs _ g.length, ← e5]
      exact hL'
    · refine .inr ⟨gi, g ++ [r], j, rfl, hgi, ?_, by simp; omega, rfl, fun i y hy => ?_⟩
      · rw [frms_snoc, List.length_append, frm_length]; omega
      · rw [List.take_append_of_le_length hj]
        by_cases e : i = gi.length
        · subst e
          rw [List.getElem?_set_self (by rw [hll]; simp)] at hy
          cases hy
          have := hx _ x h1
          rw [if_neg (by omega)] at this
          rw [if_neg (by omega)]
          exact this
        · rw [List.getElem?_set_ne (by omega)] at hy
          exact hx i y hy
    · intro g0 hg0
      simp only [List.mem_append, List.mem_cons, List.not_mem_nil, or_false] at hg0
      rcases hg0 with hg0 | rfl
      · exact ok g0 (by simp [hg0])
      · intro r0 hr0
        simp only [List.mem_append, List.mem_cons, List.not_mem_nil, or_false] at hr0
        rcases hr0 with hr0 | rfl
        · exact ok g (by simp) r0 hr0
        · exact hr
    · rw [e4, List.sum_append]; rw [e5, List.sum_append] at hc; simp at hc ⊢; omega
    · intro g0 hg0
      simp only [List.mem_append, List.mem_cons, List.not_mem_nil, or_false] at hg0
      rcases hg0 with hg0 | rfl
      · exact hn g0 (by simp [hg0])
      · simp
  · obtain ⟨l2, hF, hq2, hs2⟩ := ls_fok (lb := lb) (sb := sb) (bm := bm) (sv := sv) (root := root) hq ht (by omega) hL.dsk.len
    have hl2 : l2.length = gs.length := by have := hq2.1; simpa using this
    have hsz : 0 ≤ size ∧ size ≤ 1024 := by
      rcases ht with ⟨_, _, rfl⟩ | ⟨gi, g, j, rfl, _, rfl, _⟩
      · omega
      · obtain ⟨x, h1, _, h3, _⟩ := last_get hq
        have := (hL.dsk.seg x (List.mem_of_getElem? h1)).2.2.1
        rw [h3] at this; omega
    have hbig : (stC fs (cs gs)).length = 0 ∨ (1024 : Int) - size < 6 + len := by
      rcases List.eq_nil_or_concat gs with rfl | ⟨gi, g, rfl⟩
      · left; rfl
      · right
        have : ¬ (size + 6 + len ≤ 1024) := fun hh => hfit ⟨gi, g, by simp, hh⟩
        omega
    refine (lappend_next w hL (by omega) (by omega) (by omega) l2 (hq.no (.inr (by simp [hsl]))) (by omega) hF (hq2.no (.inr (by simp [hsl]))) (by omega) a len cap r hb hr hsz.1 hsz.2 (by omega) (by omega) hbig).mono ?_
    rintro e w' ⟨rfl, ⟨sv', v', hL'⟩, hK⟩
    obtain ⟨e2, hq3⟩ := hq2.snoc (x := ⟨seg + ((stC fs (cs gs)).length : Int), v', frm r, 0⟩) (by simp [hsl])
    rw [e2] at hL'
    dsimp only at hq3
    have e4 : cs (gs ++ [[r]]) = cs gs ++ [1] := by simp [cs]
    have e3 : (gs ++ [[r]]).map frms = gs.map frms ++ [frm r] := by simp [frms_one]
    refine ⟨rfl, ⟨gs ++ [[r]], fs + (cs gs).sum, ⟨⟨sv', _, root, 6 + (len : Int), ?_, by rw [e3]; exact hq3, hrt, ?_⟩, ?_, le, ?_⟩, ?_, by simp⟩, hK⟩
    · have e6 : ((fs + (cs (gs ++ [[r]])).sum : Nat) : Int) = ((fs + (cs gs).sum : Nat) : Int) + 1 := by rw [e4, List.sum_append]; simp; omega
      rw [e6, e4, stC_snoc]
      exact hL'
    · refine .inr ⟨gs, [r], 0, rfl, hn, ?_, by simp, by omega, fun i y hy => ?_⟩
      · rw [frms_one, frm_length]; omega
      · by_cases hi : i < gs.length
        · rw [if_pos hi]
          rw [List.getElem?_append_left (by omega)] at hy
          exact hs2 y (List.mem_of_getElem? hy)
        · rw [if_neg hi]
          rw [List.getElem?_append_right (by omega)] at hy
          cases hh : i - l2.length with
          | zero => rw [hh] at hy; simp at hy; rw [← hy]; simp [frms]
          | succ n => rw [hh] at hy; simp at hy
    · intro g0 hg0
      simp only [List.mem_append, List.mem_cons, List.not_mem_nil, or_false] at hg0
      rcases hg0 with hg0 | rfl
      · exact ok g0 hg0
      · intro r0 hr0; simp at hr0; rw [hr0]; exact hr
    · rw [e4, List.sum_append]; simp; omega
    · intro g0 hg0
      simp only [List.mem_append, List.mem_cons, List.not_mem_nil, or_false] at hg0
      rcases hg0 with hg0 | rfl
      · exact hn g0 hg0
      · simp
end
end Go.Proofs.Ytgblekdllcngnaa

/- A log with its records: Truncate, Read, and what power leaves. -/
namespace Go.Proofs.Ytgblekdllcngnaa
open Go.RowKit Go.Shelf Plain Go.IntWalk
set_option linter.unusedVariables false
set_option linter.unusedSimpArgs false
theorem hld_cons {z x : Int} {st : List Int} (h : z ≤ x) : hld (z :: st) x = hld st x + 1 := by
  unfold hld
  rw [List.countP_cons_of_pos (by simpa using h)]
  omega
theorem hld_above {x : Int} {st : List Int} (h : ∀ z ∈ st, x < z) : hld st x = -1 := by
  unfold hld
  rw [List.countP_eq_zero.2 (fun z hz => by have := h z hz; simp; omega)]
  rfl
theorem stC_hld : ∀ (c : List Nat) (fs : Nat) (x : Int), c ≠ [] → (fs : Int) ≤ x → ∃ G, G < c.length ∧ hld (stC fs c) x = G ∧ ((fs + (c.take G).sum : Nat) : Int) ≤ x
  | [], _, _, h, _ => absurd rfl h
  | [a], fs, x, _, h => ⟨0, by simp, by rw [stC, stC, hld_cons h, hld_above (by simp)]; rfl, by simpa using h⟩
  | a :: b :: c, fs, x, _, h => by
    by_cases hx : ((fs + a : Nat) : Int) ≤ x
    · obtain ⟨G, h1, h2, h3⟩ := stC_hld (b :: c) (fs + a) x (by simp) hx
      refine ⟨G + 1, by simpa using h1, ?_, ?_⟩
      · rw [stC, hld_cons h, h2]; omega
      · rw [List.take_succ_cons, List.sum_cons, ← Nat.add_assoc]; exact h3
    · refine ⟨0, by simp, ?_, by simpa using h⟩
      rw [stC, hld_cons h, hld_above fun z hz => by have := stC_lo _ _ z hz; omega]; rfl
theorem stC_hld_at : ∀ (c : List Nat) (fs I A d : Nat), c[I]? = some d → A < d → hld (stC fs c) ((fs + (c.take I).sum + A : Nat) : Int) = I
  | [], _, I, _, _, h, _ => by simp at h
  | a :: c, fs, 0, A, d, h, hA => by
    simp at h; subst h
    rw [stC, hld_cons (by simp; omega), hld_above fun z hz => by have := stC_lo _ _ z hz; simp; omega]; rfl
  | a :: c, fs, I + 1, A, d, h, hA => by
    have ih := stC_hld_at c (fs + a) I A d (by simpa using h) hA
    rw [stC, hld_cons (by omega), List.take_succ_cons, List.sum_cons, ← Nat.add_assoc, ih]; omega
theorem flat_get : ∀ (gs : List (List (List Int))) (m : Nat) (r : List Int), gs.flatten[m]? = some r → ∃ I g A, gs[I]? = some g ∧ g[A]? = some r ∧ m = ((cs gs).take I).sum + A
  | [], m, r, h => by simp at h
  | g :: gs, m, r, h => by
    rw [List.flatten_cons] at h
    by_cases hm : m < g.length
    · rw [List.getElem?_append_left hm] at h
      exact ⟨0, g, m, rfl, h, by simp⟩
    · rw [List.getElem?_append_right (by omega)] at h
      obtain ⟨I, g', A, h1, h2, h3⟩ := flat_get gs _ r h
      refine ⟨I + 1, g', A, by simpa using h1, h2, ?_⟩
      have : cs (g :: gs) = g.length :: cs gs := rfl
      rw [this, List.take_succ_cons, List.sum_cons]; omega
section
variable {M : Nat → Prop} {w w' : World} {lb sb bm : Nat} {gs : List (List (List Int))} {seg fs F : Nat}
theorem Tl.up {l : List Sg} {size : Int} (h : Tl gs l size fs F) : (stC fs (cs gs)).Pairwise (· < ·) := by
  rcases h with ⟨rfl, rfl, _⟩ | ⟨gi, g, j, rfl, hgi, _⟩
  · exact List.Pairwise.nil
  · refine stC_up _ _ ?_
    have : cs (gi ++ [g]) = cs gi ++ [g.length] := by simp [cs]
    rw [this, List.dropLast_concat]
    exact cs_pos hgi
theorem frs_g {g : List (List Int)} (h : ∀ r ∈ g, okR r) : frs (frms g) = g.map frm := by
  have := frs_frms h []
  rw [List.append_nil, frs_none fsz_nil, List.append_nil] at this
  exact this
theorem ls_read (w : World) (h : Lgs M w lb sb bm gs seg fs F) (n : Nat) (r : List Int) (hr : gs.flatten[n]? = some r) (x : Int) (hx : Hid (x = ((fs + n : Nat) : Int))) :
    Calls Try.prog 19 #[.pointer (some ⟨lb, 0, none⟩), .int .i64 x] w fun e W' => ∃ v', e = .returned (.tuple #[v', .int .i64 0]) ∧ Btx (fun i => w.heap.size ≤ i) W' v' r ∧ Below w.heap.size w W' := by
  rw [hx.out]
  obtain ⟨⟨sv, l, root, size, hL, hq, hrt, ht⟩, ok, le, top⟩ := h
  have hn : n < (cs gs).sum := by rw [cs_sum]; exact (List.getElem?_eq_some_iff.1 hr).1
  obtain ⟨I, g, A, h1, h2, h3⟩ := flat_get gs n r hr
  have hI : I < gs.length := (List.getElem?_eq_some_iff.1 h1).1
  have hA : A < g.length := (List.getElem?_eq_some_iff.1 h2).1
  have hcI : (cs gs)[I]? = some g.length := by unfold cs; rw [List.getElem?_map, h1]; rfl
  obtain ⟨y, hy1, hy2, hy3⟩ := hq.get (i := I) (by simpa using hI)
  have hyb : y.b = frms g := by rw [List.getElem?_map, h1] at hy3; simpa using hy3.symm
  have hokg := ok g (List.mem_of_getElem? h1)
  have hll := hL.dsk.len
  have hlg : l.length = gs.length := by have := hq.1; simpa using this
  have e : fs + n = fs + ((cs gs).take I).sum + A := by omega
  have := lread_some w hL ht.up (by rw [stC_length, cs_length]; omega) (by omega) (by omega) ((fs + n : Nat) : Int) (by rw [fst_stC]; simp; omega) (by simp; omega) I (by rw [e]; exact stC_hld_at _ _ _ _ _ hcI hA) _ (stC_get (cs gs) fs I (by rw [cs_length]; exact hI)) y hy2 A (by omega) (by omega) (by omega) (by omega) (by omega) (frm r) (by rw [hyb, frs_g hokg, List.getElem?_map, h2]; rfl) (rgt_frm r)
  rw [frm_drop] at this
  exact this
theorem ls_read_low (w : World) (h : Lgs M w lb sb bm gs seg fs F) (x : Int) (hx : x < fs) :
    Calls Try.prog 19 #[.pointer (some ⟨lb, 0, none⟩), .int .i64 x] w fun e W' => e = .returned (.tuple #[.slice none 0 0, .int .i64 42]) ∧ Below w.heap.size w W' := by
  obtain ⟨⟨sv, l, root, size, hL, hq, hrt, ht⟩, ok, le, top⟩ := h
  exact lread_low w hL x (by rw [fst_stC]; simpa using hx)
theorem ls_truncate_bad (w : World) (h : Lgs M w lb sb bm gs seg fs F) (x : Int) (hx : (fs : Int) ≤ x) (hx1 : (F : Int) < x) :
    Calls Try.prog 13 #[.pointer (some ⟨lb, 0, none⟩), .int .i64 x] w fun e w' => e = .returned (.int .i64 1) ∧ w' = w := by
  obtain ⟨⟨sv, l, root, size, hL, hq, hrt, ht⟩, ok, le, top⟩ := h
  exact truncate_bad w hL x (by rw [fst_stC]; simpa using hx) (by simpa using hx1)
theorem Sq.delUp {bs : List (List Int)} {l : List Sg} {sg : Int} (h : Sq sg bs l) : ∀ j, delUp sg j l = l.drop j
  | 0 => by simp [Go.Proofs.Ytgblekdllcngnaa.delUp]
  | j + 1 => by
    rw [Go.Proofs.Ytgblekdllcngnaa.delUp, Sq.delUp h j, (h.drop j).del_first, List.drop_drop]
theorem ls_truncate (w : World) (h : Lgs M w lb sb bm gs seg fs F) (x : Int) (hx : (fs : Int) ≤ x) (hx1 : x ≤ (F : Int)) :
    Calls Try.prog 13 #[.pointer (some ⟨lb, 0, none⟩), .int .i64 x] w fun e w' => e = .returned (.int .i64 0) ∧ (∃ gs' seg' fs', Lgs M w' lb sb bm gs' seg' fs' F ∧ (NoE gs → NoE gs') ∧ fs ≤ fs' ∧ (fs' : Int) ≤ x ∧ gs'.flatten = gs.flatten.drop (fs' - fs) ∧ fs' + (cs gs').sum = fs + (cs gs).sum) ∧ Kpt M w w' := by
  have hFl := h.F_le
  obtain ⟨⟨sv, l, root, size, hL, hq, hrt, ht⟩, ok, le, top⟩ := h
  have hup := ht.up
  have hll := hL.dsk.len
  have hlg : l.length = gs.length := by have := hq.1; simpa using this
  have hsl : (stC fs (cs gs)).length = gs.length := by rw [stC_length, cs_length]
  obtain ⟨G, hG, hGx, hGl⟩ : ∃ G : Nat, max 0 (hld (stC fs (cs gs)) x) = G ∧ ((fs + ((cs gs).take G).sum : Nat) : Int) ≤ x ∧ (0 < G → G < gs.length) := by
    by_cases hn : gs = []
    · subst hn
      exact ⟨0, rfl, by simpa [cs] using hx, fun h => absurd h (by omega)⟩
    · obtain ⟨G, h1, h2, h3⟩ := stC_hld (cs gs) fs x (fun e => hn (List.map_eq_nil_iff.1 e)) hx
      exact ⟨G, by rw [h2]; omega, h3, fun _ => by rwa [cs_length] at h1⟩
  by_cases hG0 : G = 0
  · subst hG0
    refine (truncate_zero w hL hup (by omega) (by omega) (by omega) x (by omega) (by rw [fst_stC]; simpa using hx) (by simpa using hx1) hG (fs : Int) (fst_stC _ _) (by omega) (by omega)).mono ?_
    rintro e w' ⟨rfl, ⟨sv', hL'⟩, hK⟩
    exact ⟨rfl, ⟨gs, seg, fs, ⟨⟨sv', l, _, size, hL', hq, .inr rfl, ht⟩, ok, le, top⟩, id, Nat.le_refl _, hx, by simp, rfl⟩, hK⟩
  · have hGl' := hGl (by omega)
    have hget := stC_get (cs gs) fs G (by rw [cs_length]; exact hGl')
    refine (truncate_some w hL hup (by omega) (by omega) (by omega) x (by omega) (by rw [fst_stC]; simpa using hx) (by simpa using hx1) G hG (by omega) (by omega) _ hget (by omega) (by omega) (fun j hj => by
      obtain ⟨y, _, h2, _⟩ := hq.get (i := j) (by simp; omega)
      rw [h2]; rfl)).mono ?_
    rintro e w' ⟨rfl, ⟨sv', hL'⟩, hK⟩
    rw [hq.delUp G, stC_drop] at hL'
    have hsum : ((cs gs).take G).sum + ((cs gs).drop G).sum = (cs gs).sum := by rw [← List.sum_append, List.take_append_drop]
    rw [cs_drop] at hsum hL'
    refine ⟨rfl, ⟨gs.drop G, seg + G, fs + ((cs gs).take G).sum, ⟨⟨sv', l.drop G, _, size, ?_, ?_, .inr rfl, ?_⟩, fun g hg => ok g (List.mem_of_mem_drop hg), ?_, by omega⟩, fun hn g hg => hn g (List.mem_of_mem_drop hg), by omega, hGx, ?_, by omega⟩, hK⟩
    · have e1 : ((fs + ((cs gs).take G).sum + (cs (gs.drop G)).sum : Nat) : Int) = ((fs + (cs gs).sum : Nat) : Int) := by omega
      rw [e1]
      exact hL'
    · rw [List.map_drop]; exact hq.drop G
    · rcases ht with ⟨rfl, _⟩ | ⟨gi, g, j, rfl, hgi, rfl, hj, rfl, hx⟩
      · simp at hGl'
      · simp at hGl'
        have e2 : (gi ++ [g]).drop G = gi.drop G ++ [g] := by rw [List.drop_append_of_le_length (by omega)]
        have e3 : ((cs (gi ++ [g])).take G).sum + (cs (gi.drop G)).sum = (cs gi).sum := by
          rw [cs_append, List.take_append_of_le_length (by rw [cs_length]; omega), ← cs_drop, ← List.sum_append, List.take_append_drop]
        refine .inr ⟨gi.drop G, g, j, e2, fun h hh => hgi h (List.mem_of_mem_drop hh), rfl, hj, by omega, fun i y hy => ?_⟩
        rw [List.getElem?_drop] at hy
        rw [hx _ y hy, List.length_drop]
        by_cases hi : G + i < gi.length
        · rw [if_pos hi, if_pos (by omega)]
        · rw [if_neg hi, if_neg (by omega)]
    · rcases ht with ⟨rfl, _⟩ | ⟨gi, g, j, rfl, hgi, _⟩
      · simp at hGl'
      · simp at hGl'
        have h1 : (cs (gi ++ [g])).take G = cs (gi.take G) := by rw [cs_append, List.take_append_of_le_length (by rw [cs_length]; omega), cs_take]
        have h2 := len_le_sum (cs (gi.take G)) (cs_pos fun h hh => hgi h (List.mem_of_mem_take hh))
        rw [cs_length, List.length_take] at h2
        rw [h1]; omega
    · have e5 : (gs.take G).flatten.length = ((cs gs).take G).sum := by rw [cs_take, cs_sum]
      have e6 : gs.flatten = (gs.take G).flatten ++ (gs.drop G).flatten := by rw [← List.flatten_append, List.take_append_drop]
      rw [e6, List.drop_left' (by omega)]
end
theorem cr_zero (k : Int) : cr k 0 = 0 := by unfold cr; exact Int.emod_one _
theorem pw_safe (k : Option Int) (x : Sg) (hs : x.s = x.b.length) (hb : 0 < x.b.length) : pwItem k x = [x.abs] := by
  have : pn k x = x.b.length := by
    cases k with
    | none => exact hs
    | some k => simp only [pn, hs, Int.sub_self, cr_zero, Int.add_zero]
  unfold pwItem
  rw [this, if_pos (by omega)]
  simp [Sg.abs, hs]
theorem pow_abs {sg : Int} {gi : List (List (List Int))} {g : List (List Int)} {j : Nat} {l : List Sg} (hq : Sq sg ((gi ++ [g]).map frms) l) (hgi : ∀ h ∈ gi, h ≠ []) (hx : ∀ (i : Nat) (x : Sg), l[i]? = some x → x.s = if i < gi.length then (x.b.length : Int) else ((frms (g.take j)).length : Int)) (ks : List Int) :
    ∃ p : Nat, (frms (g.take j)).length ≤ p ∧ p ≤ (frms g).length ∧ powS ks l = (l.take gi.length).map Sg.abs ++ (if 0 < p then [(sg + (gi.length : Int), (frms g).take p, (p : Int))] else []) := by
  have hll : l.length = gi.length + 1 := by have := hq.1; simpa using this
  have hN : ∀ i, i ≤ gi.length → powN ks l i = (l.take i).map Sg.abs := by
    intro i
    induction i with
    | zero => intro _; simp [powN]
    | succ i ih =>
      intro hi
      have e := List.getElem?_eq_getElem (by omega : i < l.length)
      rw [powN_succ e, ih (by omega), List.take_add_one, e]
      have hs := hx i _ e
      rw [if_pos (by omega)] at hs
      have hb := (hq.2 i _ e).2
      rw [List.getElem?_map, List.getElem?_append_left (by omega), List.getElem?_eq_getElem (by omega : i < gi.length)] at hb
      simp at hb
      rw [pw_safe _ _ hs (by rw [← hb]; exact frms_pos (hgi _ (List.getElem_mem _)))]
      rw [List.map_append]; rfl
  obtain ⟨x, h1, _, h3, h4⟩ := last_get hq
  have hs := hx _ x h1
  rw [if_neg (by omega)] at hs
  have hb := pn_lo (k := ks[gi.length]?) (x := x) (by omega) (by rw [hs, h3]; have := frms_take_len g j; omega)
  refine ⟨(pn ks[gi.length]? x).toNat, by omega, by rw [h3] at hb; omega, ?_⟩
  unfold powS
  rw [hll, powN_succ h1, hN _ (Nat.le_refl _)]
  congr 1
  unfold pwItem
  by_cases hp : 0 < pn ks[gi.length]? x
  · rw [if_pos hp, if_pos (by omega), h4, h3]
    congr 3
    omega
  · rw [if_neg hp, if_neg (by omega)]
theorem sq_of_abs {sg : Int} {l2 : List Sg} {A : List (Int × List Int × Int)} {bs : List (List Int)} (h : l2.map Sg.abs = A) (hl : A.length = bs.length) (hA : ∀ (i : Nat) (a : Int × List Int × Int), A[i]? = some a → a.1 = sg + (i : Int) ∧ bs[i]? = some a.2.1 ∧ a.2.2 = (a.2.1.length : Int)) : Sq sg bs l2 ∧ ∀ x ∈ l2, x.s = x.b.length := by
  have hg : ∀ (i : Nat) (x : Sg), l2[i]? = some x → A[i]? = some x.abs := fun i x hx => by rw [← h, List.getElem?_map, hx]; rfl
  refine ⟨⟨by rw [← hl, ← h]; simp, fun i x hx => ?_⟩, fun x hx => ?_⟩
  · have := hA i _ (hg i x hx)
    exact ⟨this.1, this.2.1⟩
  · obtain ⟨i, hi, rfl⟩ := List.mem_iff_getElem.1 hx
    exact (hA i _ (hg i _ (List.getElem?_eq_getElem hi))).2.2
section
variable {M : Nat → Prop} {w w' : World} {lb sb bm : Nat} {gs : List (List (List Int))} {seg fs F : Nat}
theorem ls_power (w : World) (h : Lgs M w lb sb bm gs seg fs F) (ka : Option Addr) (kcap : Nat) (ks : List Int) (hk : Ins w.heap.size w (.slice ka ks.length kcap) ks) :
    Calls Try.prog 17 #[.pointer (some ⟨sb, 0, none⟩), .slice ka ks.length kcap] w fun r w' => ∃ sb2 bm2 l2 root bs gs0, r = .returned (.pointer (some ⟨sb2, 0, none⟩)) ∧ w.heap.size ≤ sb2 ∧ w.heap.size ≤ bm2 ∧ Dsk w' sb2 bm2 (Pn w sb2 bm2) l2 root ∧ Rt root seg fs ∧ Sq seg bs l2 ∧ (∀ x ∈ l2, x.s = x.b.length) ∧ Bsf bs gs0 ∧
      (∀ g ∈ gs0, ∀ r ∈ g, okR r) ∧ gs0.flatten <+: gs.flatten ∧ F ≤ fs + gs0.flatten.length ∧ (F = fs + (cs gs).sum → NoE gs → gs0 = gs) ∧ w.grownBy w' none := by
  obtain ⟨⟨sv, l, root, size, hL, hq, hrt, ht⟩, ok, le, top⟩ := h
  refine (power_any w hL.dsk ka kcap ks hk).mono ?_
  rintro r w' ⟨sb2, bm2, l2, rfl, hs2, hb2, hD, hl2, hg⟩
  have hD' := hD
  rcases ht with ⟨rfl, rfl, rfl⟩ | ⟨gi, g, j, rfl, hgi, rfl, hj, rfl, hx⟩
  · have hl0 : l = [] := List.length_eq_zero_iff.1 (by have := hq.1; simpa using this)
    subst hl0
    have : l2 = [] := by
      have : powS ks [] = [] := rfl
      rw [this] at hl2
      exact List.map_eq_nil_iff.1 hl2
    subst this
    exact ⟨sb2, bm2, [], root, [], [], rfl, hs2, hb2, hD', hrt, ⟨rfl, fun i x hx => by simp at hx⟩, by simp, .inl ⟨rfl, rfl⟩, by simp, by simp, by simp, fun _ _ => rfl, hg⟩
  · obtain ⟨p, hp0, hp1, hpow⟩ := pow_abs hq hgi hx ks
    rw [hpow] at hl2
    have hll : l.length = gi.length + 1 := by have := hq.1; simpa using this
    have hsum : (cs (gi ++ [g])).sum = (cs gi).sum + g.length := by rw [cs_append, List.sum_append]; simp [cs]
    have hfst : ∀ (i : Nat) (a : Int × List Int × Int), i < gi.length → ((l.take gi.length).map Sg.abs)[i]? = some a → a.1 = (seg : Int) + (i : Int) ∧ (gi.map frms)[i]? = some a.2.1 ∧ a.2.2 = (a.2.1.length : Int) := by
      intro i a hi ha
      rw [List.getElem?_map, List.getElem?_take_of_lt hi, List.getElem?_eq_getElem (by omega : i < l.length)] at ha
      simp at ha
      subst ha
      have e := List.getElem?_eq_getElem (by omega : i < l.length)
      have h1 := hq.2 i _ e
      have h2 := hx i _ e
      rw [if_pos hi] at h2
      refine ⟨h1.1, ?_, h2⟩
      have h3 := h1.2
      rw [List.map_append, List.getElem?_append_left (by simpa using hi)] at h3
      exact h3
    have hla : ((l.take gi.length).map Sg.abs).length = gi.length := by simp; omega
    by_cases hp : 0 < p
    · rw [if_pos hp] at hl2
      obtain ⟨j2, t, hj2, e, htz, hk2⟩ := frms_take g (ok g (by simp)) p hp1
      have hjj : j ≤ j2 := hk2 j hp0 hj
      obtain ⟨hq2, hs2'⟩ := sq_of_abs (sg := (seg : Int)) (bs := gi.map frms ++ [frms (g.take j2) ++ t]) hl2 (by rw [List.length_append, hla]; simp) (fun i a ha => by
        by_cases hi : i < gi.length
        · rw [List.getElem?_append_left (by omega)] at ha
          rw [List.getElem?_append_left (by simpa using hi)]
          exact hfst i a hi ha
        · rw [List.getElem?_append_right (by omega), hla] at ha
          rw [List.getElem?_append_right (by simp; omega)]
          cases hh : i - gi.length with
          | succ n => rw [hh] at ha; simp at ha
          | zero =>
            rw [hh] at ha
            simp at ha
            subst ha
            obtain rfl : i = gi.length := by omega
            refine ⟨rfl, ?_, ?_⟩
            · simp [e]
            · simp; omega)
      refine ⟨sb2, bm2, l2, root, _, gi ++ [g.take j2], rfl, hs2, hb2, hD', hrt, hq2, hs2', .inr ⟨gi, g.take j2, t, rfl, rfl, hgi, htz, ?_⟩, ?_, ?_, ?_, ?_, hg⟩
      · rw [← e]; intro h0
        have := congrArg List.length h0
        rw [List.length_take, List.length_nil] at this; omega
      · intro h hh r hr
        simp only [List.mem_append, List.mem_cons, List.not_mem_nil, or_false] at hh
        rcases hh with hh | rfl
        · exact ok h (by simp [hh]) r hr
        · exact ok g (by simp) r (List.mem_of_mem_take hr)
      · rw [List.flatten_append, List.flatten_append]
        simp only [List.flatten_cons, List.flatten_nil, List.append_nil]
        exact (List.prefix_append_right_inj _).2 (List.take_prefix _ _)
      · rw [← cs_sum, cs_append, List.sum_append]; simp [cs]; omega
      · intro hF hn
        have : j2 = g.length := by omega
        rw [this, List.take_length]
    · rw [if_neg hp, List.append_nil] at hl2
      have hj0 : j = 0 := by
        refine Nat.eq_zero_of_not_pos fun h0 => ?_
        have := frms_pos (g := g.take j) (fun e => by have := congrArg List.length e; rw [List.length_take, List.length_nil] at this; omega)
        omega
      obtain ⟨hq2, hs2'⟩ := sq_of_abs (sg := (seg : Int)) (bs := gi.map frms) hl2 (by rw [hla]; simp) (fun i a ha => by
        have hi : i < gi.length := by
          have := (List.getElem?_eq_some_iff.1 ha).1
          omega
        exact hfst i a hi ha)
      refine ⟨sb2, bm2, l2, root, _, gi, rfl, hs2, hb2, hD', hrt, hq2, hs2', ?_, fun h hh => ok h (by simp [hh]), by simp, by rw [← cs_sum]; omega, fun hF hn => ?_, hg⟩
      · rcases List.eq_nil_or_concat gi with rfl | ⟨gi', g', rfl⟩
        · exact .inl ⟨rfl, rfl⟩
        · refine .inr ⟨gi', g', [], by simp, by simp, fun h hh => hgi h (by simp [hh]), fsz_nil, ?_⟩
          rw [List.append_nil]
          exact frms_ne (hgi g' (by simp))
      · have := hn g (by simp)
        exact absurd (List.length_eq_zero_iff.1 (by omega)) this
end
end Go.Proofs.Ytgblekdllcngnaa

/- The record that an act speaks of. -/
namespace Go.Proofs.Ytgblekdllcngnaa
open Go.RowKit Go.Shelf Plain Go.IntWalk
set_option linter.unusedVariables false
theorem grown_own {A B C : World} {base e k : Nat} {v : Value} {xs : List Value} (h : A.grownBy B none) (hrow : B.ownsRow base e 1 v k xs) (hb : A.heap.size ≤ base) (hg : B.grownBy C v.ownBlock) : A.grownBy C none := by
  cases hv : v.ownBlock with
  | none => rw [hv] at hg; exact grown_none h hg
  | some r => rw [hv] at hg; exact grown_new h hg (Nat.le_trans hb (hrow.lt r hv).1)
set_option maxRecDepth 100000 in
set_option maxHeartbeats 2000000 in
theorem body_any (w : World) (kd s n : Int) (ba : Option Addr) (bc : Nat) (b : List Int) (kv : Value) (hn0 : -9223372036854775808 ≤ n) (hn1 : n < 9223372036854775808) (hb : Bts w.heap.size w (.slice ba b.length bc) b) (hl : b.length ≤ 300) :
    Calls Try.prog 11 #[.agg #[.int .i64 kd, .int .i64 s, .int .i64 n, .slice ba b.length bc, kv]] w fun e w' => ∃ v' zs, e = .returned v' ∧ Btx (fun i => w.heap.size ≤ i) w' v' zs ∧ zs.length ≤ 3600 ∧ w.grownBy w' none := by
  obtain ⟨W1, hW1⟩ : ∃ W1, w.alloc (.cells #[.int .i64 kd, .int .i64 s, .int .i64 n, .slice ba b.length bc, kv] 34) = W1 := ⟨_, rfl⟩
  have hga : w.grownBy W1 none := by rw [← hW1]; exact World.grownBy_alloc w _ none
  have hnew : W1.heap[w.heap.size]? = some (.cells #[.int .i64 kd, .int .i64 s, .int .i64 n, .slice ba b.length bc, kv] 34 (0, 0)) := by rw [← hW1]; exact heap_alloc_new w _
  have hsz : W1.heap.size = w.heap.size + 1 := by rw [← hW1]; simp
  have hb1 := hb.grown0 hga
  have hc2 : W1.cell? ⟨w.heap.size, 2, none⟩ = some (.int .i64 n) := by simp [World.cell?, hnew]
  have hc3 : W1.cell? ⟨w.heap.size, 3, none⟩ = some (.slice ba b.length bc) := by simp [World.cell?, hnew]
  clear hnew
  go_enter Try.func11, Try.ntmps11
  go_wp2_with fail
  go_loopw [3, 4] (fun v i wr => ∃ (j : Nat) (zs : List Int), j ≤ 12 ∧ i = .int .i64 j ∧ wr.ownsRow W1.heap.size 5 1 v zs.length (zs.map (Value.int .u8)) ∧ zs.length ≤ 300 * j ∧ Hid (∀ z ∈ zs, 0 ≤ z ∧ z < 256) ∧ W1.grownBy wr none) (fun _ i _ => 12 - (intOf i).toNat)
  case atStart => exact ⟨0, [], by omega, rfl, World.ownsRow_nil _ _ _ _, by simp, (fun z hz => by cases hz), grown_refl _⟩
  case round =>
    obtain ⟨j, zs, hj, rfl, hrow, hzl, hzz, hg⟩ := hrel
    have c2 := grown_cell hg hc2
    have c3 := grown_cell hg hc3
    have hbr := hb1.grown0 hg
    have hgs := hg.size
    go_wp2_with fail
    refine (pick_any n 12 hn0 hn1 (by omega) (by omega) _).mono ?_
    rintro e w6 ⟨k, rfl, hk0, hk1, rfl⟩
    by_cases hle : (j : Int) ≤ k
    · have hd : decide ((j : Int) ≤ k) = true := by simpa using hle
      go_wp2_with (at_builtin; go_must (refine wpList_append_bts _ rfl (.tmp 12) (.tmp 14) rfl W1.heap.size w6.heap.size _ _ zs.length zs b rfl rfl hrow hbr (by omega) (by omega) ?_); intro v7 w7 hrow7 hg7)
      go_wp2
      go_roundw
      case rel =>
        refine ⟨j + 1, zs ++ b, by omega, by go_num, by rw [List.length_append]; exact hrow7, by rw [List.length_append]; omega, ?_, grown_own hg hrow (Nat.le_refl _) hg7⟩
        intro z hz
        rcases List.mem_append.1 hz with hz | hz
        · exact hzz.out z hz
        · exact hb.2 z hz
      case measure => simp [intOf]; omega
    · have hd : decide ((j : Int) ≤ k) = false := by simpa using hle
      go_wp2
      go_ret
      exact ⟨_, zs, rfl, (Btx.of_own hrow hzz.out).mono (fun i hi => by omega), by omega, grown_none hga hg⟩
end Go.Proofs.Ytgblekdllcngnaa

/- What the walks of the laws over scripts need: two logs beside one another, arguments in blocks that are kept. -/
namespace Go.Proofs.Ytgblekdllcngnaa
open Go.RowKit Go.Shelf Plain Go.IntWalk
set_option linter.unusedVariables false
theorem Kpt.cell {M : Nat → Prop} {w w' : World} (h : Kpt M w w') {b o : Nat} {v : Value} (hm : M b) (hc : w.cell? ⟨b, o, none⟩ = some v) : w'.cell? ⟨b, o, none⟩ = some v := by
  rw [← hc]
  have := h.block b hm
  simp [World.cell?, this]
theorem lgs_fresh {M : Nat → Prop} {w : World} {lb sb bm : Nat} {sv : Value} (h : Lgd M w lb sb bm sv [] [] 0 [] 0 0 0) : Lgs M w lb sb bm [] 0 0 0 :=
  ⟨⟨sv, [], [], 0, h, ⟨rfl, fun i x hx => by simp at hx⟩, .inl ⟨rfl, rfl, rfl⟩, .inl ⟨rfl, rfl, rfl⟩⟩, by simp, Nat.le_refl _, by simp [cs]⟩
theorem Ins.kept {n : Nat} {A B : World} (h : Below n A B) {v : Value} {zs : List Int} (hi : Ins n A v zs) (hn : n ≤ B.heap.size) : Ins B.heap.size B v zs := by
  obtain ⟨e | ⟨b, off, cap, e, hb, hl, hm, hc⟩, hz⟩ := hi
  · exact ⟨.inl e, hz⟩
  · refine ⟨.inr ⟨b, off, cap, e, by omega, hl, hm, fun j hj => ?_⟩, hz⟩
    have := h.block b hb
    rw [← hc j hj]
    simp [World.cell?, this]
/-- An Append, whatever the bytes. -/
theorem ls_append_any {M : Nat → Prop} {lb sb bm : Nat} {gs : List (List (List Int))} {seg fs F : Nat} (w : World) (h : Lgs M w lb sb bm gs seg fs F) (hn : NoE gs) (hc : fs + (cs gs).sum < 100) (a : Option Addr) (len cap : Nat) (r : List Int) (hb : Bts w.heap.size w (.slice a len cap) r) :
    Calls Try.prog 10 #[.pointer (some ⟨lb, 0, none⟩), .slice a len cap] w fun e w' => ∃ x c, e = .returned (.tuple #[.int .i64 x, .int .i64 c]) ∧ (∃ gs' F', Lgs M w' lb sb bm gs' seg fs F' ∧ NoE gs' ∧ (cs gs').sum ≤ (cs gs).sum + 1) ∧ Kpt M w w' := by
  by_cases hr : 1 ≤ r.length ∧ r.length ≤ 1000
  · refine (ls_append w h hn hc a len cap r hb ⟨hr.1, hr.2, hb.2⟩).mono ?_
    rintro e w' ⟨rfl, ⟨gs', F', hL, hN, hf⟩, hK⟩
    exact ⟨_, _, rfl, ⟨gs', F', hL, hN, by rw [cs_sum, cs_sum, hf]; simp⟩, hK⟩
  · have hlen := hb.len
    refine (lappend_bad lb a len cap (by omega) w).mono ?_
    rintro e w' ⟨rfl, rfl⟩
    exact ⟨_, _, rfl, ⟨gs, F, h, hn, by omega⟩, Kpt.refl _ _⟩
/-- A Truncate, whatever the number. -/
theorem ls_truncate_any {M : Nat → Prop} {lb sb bm : Nat} {gs : List (List (List Int))} {seg fs F : Nat} (w : World) (h : Lgs M w lb sb bm gs seg fs F) (x : Int) (hx : (fs : Int) ≤ x) :
    Calls Try.prog 13 #[.pointer (some ⟨lb, 0, none⟩), .int .i64 x] w fun e w' => ∃ c, e = .returned (.int .i64 c) ∧ (∃ gs' seg' fs', Lgs M w' lb sb bm gs' seg' fs' F ∧ (NoE gs → NoE gs') ∧ fs' + (cs gs').sum = fs + (cs gs).sum) ∧ Kpt M w w' := by
  by_cases hF : x ≤ (F : Int)
  · refine (ls_truncate w h x hx hF).mono ?_
    rintro e w' ⟨rfl, ⟨gs', seg', fs', hL, hN, _, _, _, hs⟩, hK⟩
    exact ⟨_, rfl, ⟨gs', seg', fs', hL, hN, hs⟩, hK⟩
  · refine (ls_truncate_bad w h x hx (by omega)).mono ?_
    rintro e w' ⟨rfl, rfl⟩
    exact ⟨_, rfl, ⟨gs, seg, fs, h, id, rfl⟩, Kpt.refl _ _⟩
/-- Power, and Open of what it leaves. -/
theorem trod_array2 {H : Type} {enc : TypeId × Value → H} {P : Program} {w : World} {base : Nat} {spare : Nat → Bool} {held : Bool} {t e : TypeId} {fuel : Nat} {c0 c1 : Value} {x : DataW H × List MemPlace} (ht : P.underlying t = some (.array 2 e)) (hce : P.cellsOf e = 1)
    (h : DataW.trod enc P w base spare held fuel t [c0, c1] = some x) :
    ∃ y0 y1 n, DataW.trod enc P w base spare held n e [c0] = some y0 ∧ DataW.trod enc P w base spare held n e [c1] = some y1 := by
  cases fuel with
  | zero => simp [DataW.trod] at h
  | succ n =>
    unfold DataW.trod at h
    rw [ht] at h
    have r3 : List.range 2 = [0, 1] := rfl
    simp [r3, hce] at h
    obtain ⟨_, h⟩ := h
    cases h0 : DataW.trod enc P w base spare held n e [c0] with
    | none => simp [h0] at h
    | some y0 =>
      cases h1 : DataW.trod enc P w base spare held n e [c1] with
      | none => simp [h0, h1] at h
      | some y1 => exact ⟨y0, y1, n, h0, h1⟩
end Go.Proofs.Ytgblekdllcngnaa
