/- The walk of the law DiskSafe. -/
import Derived.Test.YtmhpbemfejkdaaaRds
import Derived.Test.YtmhpbemfejkdaaaPiew
namespace Go.Proofs.Ytmhpbemfejkdaaa
open Go.RowKit Go.IntWalk Go.Maps Go.Sort
set_option linter.unusedVariables false
set_option linter.unusedSimpArgs false

theorem getS_above {l : List Sg} {n : Int} (h : ∀ z ∈ l, z.n < n) : getS n l = none := List.find?_eq_none.2 fun z hz => by
  have := h z hz
  simp
  omega
theorem getS_last {l : List Sg} {y : Sg} (h : ∀ z ∈ l, z.n < y.n) : getS y.n (l ++ [y]) = some y := by
  have e := getS_above h
  unfold getS at e ⊢
  rw [List.find?_append, e]
  simp
theorem putS_lasts {l : List Sg} {x y : Sg} (h : ∀ z ∈ l, z.n < x.n) (e : y.n = x.n) : putS x (l ++ [y]) = l ++ [x] := by
  have e1 : l.filter (fun z => decide (z.n < x.n)) = l := List.filter_eq_self.2 fun z hz => by simpa using h z hz
  have e2 : l.filter (fun z => decide (x.n < z.n)) = [] := List.filter_eq_nil_iff.2 fun z hz => by have := h z hz; simp; omega
  unfold putS
  rw [List.filter_append, List.filter_append, e1, e2]
  simp [e]
/-- The first j pairs lie in the segments. -/
def Laid (xs : List Pr) (j : Nat) (l : List Sg) : Prop := l.length = j ∧ ∀ i p, i < j → xs[i]? = some p → ∃ v, l[i]? = some ⟨3 * (i : Int), v, p.x.b ++ p.y.b, p.x.b.length⟩
theorem Laid.lt {xs : List Pr} {j : Nat} {l : List Sg} (h : Laid xs j l) (hj : j ≤ xs.length) : ∀ z ∈ l, z.n < 3 * (j : Int) := fun z hz => by
  obtain ⟨i, hi⟩ := List.getElem?_of_mem hz
  have hil : i < l.length := by
    rcases Nat.lt_or_ge i l.length with h | h
    · exact h
    · rw [List.getElem?_eq_none h] at hi; cases hi
  have h1 := h.1
  obtain ⟨v, hv⟩ := h.2 i xs[i] (by omega) (List.getElem?_eq_getElem (by omega))
  rw [hi] at hv
  cases hv
  show 3 * (i : Int) < _
  omega
theorem Laid.step {xs : List Pr} {j : Nat} {l : List Sg} (h : Laid xs j l) {p : Pr} (hp : xs[j]? = some p) (v : Value) : Laid xs (j + 1) (l ++ [⟨3 * (j : Int), v, p.x.b ++ p.y.b, p.x.b.length⟩]) := by
  have h1 := h.1
  refine ⟨by simp [h1], fun i q hi hq => ?_⟩
  by_cases e : i = j
  · subst e
    rw [hp] at hq
    cases hq
    exact ⟨v, by rw [List.getElem?_append_right (by omega), h1]; simp⟩
  · obtain ⟨v', hv⟩ := h.2 i q (by omega) hq
    exact ⟨v', by rw [List.getElem?_append_left (by omega)]; exact hv⟩
set_option maxRecDepth 100000 in
set_option maxHeartbeats 4000000 in
theorem safe_walk (a : Option Addr) (cap : Nat) (xs : List Pr) (ra : Option Addr) (rcap : Nat) (zs : List Int) (ka : Option Addr) (kcap : Nat) (ks : List Int) (W : World)
    (h : Prs W (.slice a xs.length cap) xs) (hr : Bts W.heap.size W (.slice ra zs.length rcap) zs) (hk : Ins W.heap.size W (.slice ka ks.length kcap) ks) :
    Calls Try.prog 4 #[.slice a xs.length cap, .slice ra zs.length rcap, .slice ka ks.length kcap] W fun e w' => e = .returned (.bool true) ∧ Below W.heap.size W w' := by
  by_cases hlen : xs.length > 20
  · have hd1 : decide ((xs.length : Int) > 20) = true := by simp; omega
    go_enter Try.func4, Try.ntmps4
    go_wp2_with fail
    refine (new_any W).mono ?_
    rintro r w1 ⟨sb, bm, rfl, hsb, hbm, hdk, hg1⟩
    go_wp2_with fail
    refine (alive_any w1).mono ?_
    rintro r w2 ⟨rfl, hg2⟩
    go_wp2
    go_ret
    exact ⟨rfl, grown_below (grown_none hg1 hg2)⟩
  have hd1 : decide ((xs.length : Int) > 20) = false := by simp; omega
  by_cases hrl : zs.length > 250
  · have hd2 : decide ((zs.length : Int) > 250) = true := by simp; omega
    go_enter Try.func4, Try.ntmps4
    go_wp2_with fail
    refine (new_any W).mono ?_
    rintro r w1 ⟨sb, bm, rfl, hsb, hbm, hdk, hg1⟩
    go_wp2_with fail
    refine (alive_any w1).mono ?_
    rintro r w2 ⟨rfl, hg2⟩
    go_wp2
    go_ret
    exact ⟨rfl, grown_below (grown_none hg1 hg2)⟩
  have hd2 : decide ((zs.length : Int) > 250) = false := by simp; omega
  go_enter Try.func4, Try.ntmps4
  go_wp2_with fail
  refine (new_any W).mono ?_
  rintro r w1 ⟨sb, bm, rfl, hsb, hbm, hdk1, hg1⟩
  go_wp2_with fail
  go_loopw [8] (fun i wr => ∃ (j : Nat) (N : Nat → Prop) (l : List Sg), j ≤ xs.length ∧ i = .int .i64 j ∧ Dsk wr sb bm N l [] ∧ Laid xs j l ∧ W.grownBy wr none)
    (fun i _ => xs.length - (intOf i).toNat)
  case atStart => exact ⟨0, _, [], by omega, rfl, hdk1, ⟨rfl, fun i p hi => by omega⟩, hg1⟩
  case round =>
    obtain ⟨j, N, l, hj, rfl, hdk, hlaid, hgw⟩ := hrel
    by_cases hjl : j < xs.length
    · have hdj : decide ((j : Int) < (xs.length : Int)) = true := by simp; omega
      obtain ⟨p, hp⟩ : ∃ p, xs[j]? = some p := ⟨_, List.getElem?_eq_getElem hjl⟩
      obtain ⟨b, off, rfl, hbl, ⟨hx0, hy0⟩, hxc⟩ := h.at hp
      have hcW0 : W.cell? ⟨b, off + j * 2, none⟩ = some (.slice p.x.a p.x.b.length p.x.c) := by simpa using hxc 0 _ rfl
      have hcW1 : W.cell? ⟨b, off + j * 2 + 1, none⟩ = some (.slice p.y.a p.y.b.length p.y.c) := by simpa using hxc 1 _ rfl
      have hc0 := grown_cell hgw hcW0
      have hc1 := grown_cell hgw hcW1
      have hl1 := hlaid.1
      have hwm : IntKind.i64.wrap (3 * (j : Int)) = 3 * j := by rw [IntKind.wrap_i64]; omega
      by_cases hlx : p.x.b.length > 250
      · have hd3 : decide ((p.x.b.length : Int) > 250) = true := by simp; omega
        clear hl1
        go_wp2_with fail
        refine (alive_any wr).mono ?_
        rintro r w2 ⟨rfl, hg2⟩
        go_wp2
        go_ret
        exact ⟨rfl, grown_below (grown_none hgw hg2)⟩
      have hd3 : decide ((p.x.b.length : Int) > 250) = false := by simp; omega
      by_cases hly : p.y.b.length > 250
      · have hd4 : decide ((p.y.b.length : Int) > 250) = true := by simp; omega
        clear hl1
        go_wp2_with fail
        refine (alive_any wr).mono ?_
        rintro r w2 ⟨rfl, hg2⟩
        go_wp2
        go_ret
        exact ⟨rfl, grown_below (grown_none hgw hg2)⟩
      have hd4 : decide ((p.y.b.length : Int) > 250) = false := by simp; omega
      have hlt := hlaid.lt hj
      have hnone := getS_above hlt
      have hjn : 0 ≤ 3 * (j : Int) := by omega
      have hjn1 : -9223372036854775808 ≤ 3 * (j : Int) := by omega
      have hjn2 : 3 * (j : Int) < 9223372036854775808 := by omega
      have LT : Hid (∀ z ∈ l, z.n < 3 * (j : Int)) := hlt
      have HL : Hid (l.length = j) := hl1
      clear hlt hl1
      go_wp2_with fail
      refine (append_any wr hdk _ hjn1 hjn2 _ p.x.b (p.x.ok_grown hgw hx0)).mono ?_
      rintro r w2 (⟨hf, rfl, ⟨v2, hdk2⟩, hg2⟩ | ⟨hf, _⟩)
      rotate_left
      · have := HL.out
        exact absurd hf (by simp [fits, orS, hnone, hjn]; omega)
      rw [putS_last (by exact LT.out)] at hdk2
      have ho : orS (3 * (j : Int)) l = ⟨3 * j, .slice none 0 0, [], 0⟩ := by simp [orS, hnone]
      rw [ho] at hdk2
      dsimp only [List.nil_append] at hdk2
      have hgw2 := grown_new hgw hg2 hbm
      have hc0 := grown_cell hgw2 hcW0
      have hc1 := grown_cell hgw2 hcW1
      go_wp2_with fail
      refine (sync_some w2 hdk2 (getS_last (y := ⟨3 * j, v2, p.x.b, 0⟩) LT.out)).mono ?_
      rintro r w3 ⟨rfl, hdk3, hg3⟩
      rw [putS_lasts (by exact LT.out) (by rfl)] at hdk3
      have hgw3 := grown_new hgw2 hg3 hbm
      have hc1 := grown_cell hgw3 hcW1
      go_wp2_with fail
      refine (append_any w3 hdk3 _ hjn1 hjn2 _ p.y.b (p.y.ok_grown hgw3 hy0)).mono ?_
      have hg4 := getS_last (l := l) (y := ⟨3 * j, v2, p.x.b, (p.x.b.length : Int)⟩) LT.out
      have ho : orS (3 * (j : Int)) (l ++ [⟨3 * j, v2, p.x.b, (p.x.b.length : Int)⟩]) = ⟨3 * j, v2, p.x.b, (p.x.b.length : Int)⟩ := by
        unfold orS
        dsimp only at hg4
        rw [hg4]
        rfl
      rintro r w4 (⟨hf, rfl, ⟨v4, hdk4⟩, hg4'⟩ | ⟨hf, _⟩)
      rotate_left
      · dsimp only at hg4
        exact absurd hf (by simp [fits, ho, hg4, hjn]; omega)
      rw [putS_lasts (by exact LT.out) (by rfl), ho] at hdk4
      dsimp only at hdk4
      have hgw4 := grown_new hgw3 hg4' hbm
      clear hg4 ho
      go_wp2_with fail
      go_roundw
      case rel => exact ⟨j + 1, _, _, by omega, by go_num, hdk4, hlaid.step hp v4, hgw4⟩
      case measure => simp [intOf]; omega
    · have hdj : decide ((j : Int) < (xs.length : Int)) = false := by simp; omega
      obtain rfl : j = xs.length := by omega
      go_wp2_with fail
      refine (swap_ok wr hdk _ zs (hr.grown0 hgw) (by omega)).mono ?_
      rintro r w2 ⟨rfl, hdk2, hg2⟩
      have hgw2 := grown_new hgw hg2 hsb
      go_wp2_with fail
      refine (power_any w2 hdk2 ka kcap ks (hk.grown0 hgw2)).mono ?_
      rintro r w3 ⟨sx, bx, l3, rfl, hsx, hbx, hdk3, hl3, hg3⟩
      have hgw3 := grown_none hgw2 hg3
      have hrW := hr.grown0 hgw3
      obtain ⟨Z, HZ⟩ : ∃ Z, Hid (Z = strOfNums zs) := ⟨_, rfl⟩
      have cvs : Hid (∀ w', w3.grownBy w' none → ∀ v, Bts w'.heap.size w' v zs → (convert 27 9 v).run Try.prog w' = .ok (.string Z) w') := fun w' hg v hv => by
        rw [HZ.out]
        exact run_conv hv
      have hs0 : (convert 27 9 (.slice ra zs.length rcap)).run Try.prog w3.drew = .ok (.string Z) w3.drew := cvs.out _ (grown_drew _) _ (hrW.grown0 (grown_drew _))
      go_wp2_with fail
      refine wp_region_held_drew (S := fun w' => (convert 27 9 (.slice ra zs.length rcap)).run Try.prog w' = .ok (.string Z) w') (by kernel_rfl) (by (try dsimp only); exact hs0) (fun hHeld => ?_)
      refine wpAnyH_take (i := 0) (v := ?_) rfl (by kernel_rfl) (by kernel_rfl) (by kernel_rfl) (fun _ _ _ h => h) (Or.inl ⟨by rfl, ?_⟩) (by assumption) ?_
      rotate_left
      · (intro w hSw; (try dsimp only at hSw); go_simp; try with_reducible rfl)
      try simp only [List.getElem_toArray, List.getElem_cons_zero, List.getElem_cons_succ, Act.put, List.setIfInBounds_toArray, List.set_cons_zero, List.set_cons_succ]
      refine wpAnyH_take (i := 1) (v := ?_) rfl (by kernel_rfl) (by kernel_rfl) (by kernel_rfl) (fun _ _ _ h => h) (Or.inl ⟨by rfl, ?_⟩) (by assumption) ?_
      rotate_left
      · (intro w hSw; (try dsimp only at hSw); go_simp; try with_reducible rfl)
      try simp only [List.getElem_toArray, List.getElem_cons_zero, List.getElem_cons_succ, Act.put, List.setIfInBounds_toArray, List.set_cons_zero, List.set_cons_succ]
      refine wpAnyH_take (i := 2) (v := ?_) rfl (by kernel_rfl) (by kernel_rfl) (by kernel_rfl) (fun _ _ _ h => h) (Or.inl ⟨by rfl, ?_⟩) (by assumption) ?_
      rotate_left
      · (intro w hSw; (try dsimp only at hSw); go_simp; try with_reducible rfl)
      try simp only [List.getElem_toArray, List.getElem_cons_zero, List.getElem_cons_succ, Act.put, List.setIfInBounds_toArray, List.set_cons_zero, List.set_cons_succ]
      refine wpAnyH_take (i := 3) (v := ?_) rfl (by kernel_rfl) (by kernel_rfl) (by kernel_rfl) (fun _ _ _ h => h) (Or.inl ⟨by rfl, ?_⟩) (by assumption) ?_
      rotate_left
      · (intro w hSw; (try dsimp only at hSw); go_simp; try with_reducible rfl)
      try simp only [List.getElem_toArray, List.getElem_cons_zero, List.getElem_cons_succ, Act.put, List.setIfInBounds_toArray, List.set_cons_zero, List.set_cons_succ]
      refine wpAnyH_take (i := 4) (v := ?_) rfl (by kernel_rfl) (by kernel_rfl) (by kernel_rfl) (fun _ _ _ h => h) (Or.inl ⟨by rfl, ?_⟩) (by assumption) ?_
      rotate_left
      · (intro w hSw; (try dsimp only at hSw); go_simp; try with_reducible rfl)
      try simp only [List.getElem_toArray, List.getElem_cons_zero, List.getElem_cons_succ, Act.put, List.setIfInBounds_toArray, List.set_cons_zero, List.set_cons_succ]
      refine wpAnyH_take (i := 5) (v := ?_) rfl (by kernel_rfl) (by kernel_rfl) (by kernel_rfl) (fun _ _ _ h => h) (Or.inl ⟨by rfl, ?_⟩) (by assumption) ?_
      rotate_left
      · (intro w hSw; (try dsimp only at hSw); go_simp; try with_reducible rfl)
      try simp only [List.getElem_toArray, List.getElem_cons_zero, List.getElem_cons_succ, Act.put, List.setIfInBounds_toArray, List.set_cons_zero, List.set_cons_succ]
      refine wpAnyH_take (i := 6) (v := ?_) rfl (by kernel_rfl) (by kernel_rfl) (by kernel_rfl) (fun _ _ _ h => h) (Or.inl ⟨by rfl, ?_⟩) (by assumption) ?_
      rotate_left
      · (intro w hSw; (try dsimp only at hSw); go_simp; try with_reducible rfl)
      try simp only [List.getElem_toArray, List.getElem_cons_zero, List.getElem_cons_succ, Act.put, List.setIfInBounds_toArray, List.set_cons_zero, List.set_cons_succ]
      refine wpAnyH_take (i := 7) (v := ?_) rfl (by kernel_rfl) (by kernel_rfl) (by kernel_rfl) (fun _ _ _ h => h) (Or.inl ⟨by rfl, ?_⟩) (by assumption) ?_
      rotate_left
      · (intro w hSw; (try dsimp only at hSw); go_simp; try with_reducible rfl)
      try simp only [List.getElem_toArray, List.getElem_cons_zero, List.getElem_cons_succ, Act.put, List.setIfInBounds_toArray, List.set_cons_zero, List.set_cons_succ]
      refine wpAnyH_take (i := 10) (v := ?_) rfl (by kernel_rfl) (by kernel_rfl) (by kernel_rfl) (fun _ _ _ h => h) (Or.inl ⟨by rfl, ?_⟩) (by assumption) ?_
      rotate_left
      · (intro w hSw; (try dsimp only at hSw); go_simp; try with_reducible rfl)
      try simp only [List.getElem_toArray, List.getElem_cons_zero, List.getElem_cons_succ, Act.put, List.setIfInBounds_toArray, List.set_cons_zero, List.set_cons_succ]
      refine wpAnyH_take (i := 11) (v := ?_) rfl (by kernel_rfl) (by kernel_rfl) (by kernel_rfl) (fun _ _ _ h => h) (Or.inl ⟨by rfl, ?_⟩) (by assumption) ?_
      rotate_left
      · (intro w hSw; (try dsimp only at hSw); go_simp; try with_reducible rfl)
      try simp only [List.getElem_toArray, List.getElem_cons_zero, List.getElem_cons_succ, Act.put, List.setIfInBounds_toArray, List.set_cons_zero, List.set_cons_succ]
      refine wpAnyH_ready (rs := [8]) (by kernel_rfl) (by simp) ?_
      refine AllReadyH.cons rfl (fun K hK => ?_) AllReadyH.nil
      go_simp
      refine (root_any _ (hdk3.grown0 (grown_drew _))).mono ?_
      rintro r w4 ⟨v4, rfl, hb4, hg4⟩
      have k4 := cvs.out w4 (grown_none (grown_drew _) hg4) _ hb4.1
      go_wp2_with fail
      refine hK.out _ _ ?_ (fun hHeld => ?_)
      · ((try dsimp only); exact cvs.out _ (grown_none (grown_drew _) hg4) _ ((hrW.grown0 (grown_drew _)).grown0 hg4))
      clear hK K
      try simp only [List.getElem_toArray, List.getElem_cons_zero, List.getElem_cons_succ, Act.put, List.setIfInBounds_toArray, List.set_cons_zero, List.set_cons_succ]
      refine wpAnyH_ready (rs := [9]) (by kernel_rfl) (by simp) ?_
      refine AllReadyH.cons rfl (fun K hK => ?_) AllReadyH.nil
      go_simp
      refine hK.out _ _ ?_ (fun hHeld => ?_)
      · ((try dsimp only); assumption)
      clear hK K
      try simp only [List.getElem_toArray, List.getElem_cons_zero, List.getElem_cons_succ, Act.put, List.setIfInBounds_toArray, List.set_cons_zero, List.set_cons_succ]
      refine wpAnyH_take (i := 12) (v := ?_) rfl (by kernel_rfl) (by kernel_rfl) (by kernel_rfl) (fun _ _ _ h => h) (Or.inl ⟨by rfl, ?_⟩) (by assumption) ?_
      rotate_left
      · (intro w hSw; (try dsimp only at hSw); go_simp; try with_reducible rfl)
      try simp only [List.getElem_toArray, List.getElem_cons_zero, List.getElem_cons_succ, Act.put, List.setIfInBounds_toArray, List.set_cons_zero, List.set_cons_succ]
      refine wpAnyH_take (i := 13) (v := ?_) rfl (by kernel_rfl) (by kernel_rfl) (by kernel_rfl) (fun _ _ _ h => h) (Or.inl ⟨by rfl, ?_⟩) (by assumption) ?_
      rotate_left
      · (intro w hSw; (try dsimp only at hSw); go_simp; try with_reducible rfl)
      try simp only [List.getElem_toArray, List.getElem_cons_zero, List.getElem_cons_succ, Act.put, List.setIfInBounds_toArray, List.set_cons_zero, List.set_cons_succ]
      refine wpAnyH_done (by kernel_rfl) ?_ _
      have hgw4 := grown_none (grown_none hgw3 (grown_drew _)) hg4
      have hdk4 := (hdk3.grown0 (grown_drew _)).grown0 hg4
      clear hs0 k4 hHeld
      go_wp2_with fail
      refine (power_any w4 hdk4 ka kcap ks (hk.grown0 hgw4)).mono ?_
      rintro r w5 ⟨sy, bY, l5, rfl, hsy, hby, hdk5, hl5, hg5⟩
      have hseg2 : ∀ x ∈ l, 0 ≤ x.s ∧ x.s ≤ x.b.length := fun x hx => ⟨(hdk.seg x hx).2.2.2.1, (hdk.seg x hx).2.2.2.2.1⟩
      have hl53 : l5.map Sg.abs = l3.map Sg.abs := by
        rw [hl5]
        refine pow_again fun x hx => ?_
        have := powS_safe (ks := ks) hseg2 x.abs (hl3 ▸ List.mem_map.2 ⟨x, hx, rfl⟩)
        exact this
      have hgw5 := grown_none hgw4 hg5
      have hdx := hdk4.grown0 hg5
      have HAB : Hid (∀ (i : Nat) (p : Pr), xs[i]? = some p → ∃ n : Int, p.x.b.length ≤ n ∧ n ≤ p.x.b.length + p.y.b.length ∧ bytesA (3 * (i : Int)) (l3.map Sg.abs) = (p.x.b ++ p.y.b).take n.toNat ∧ safeA (3 * (i : Int)) (l3.map Sg.abs) = n ∧ p.x.b.length + p.y.b.length ≤ 1024) := fun i p hp => by
        have hil : i < xs.length := by
          rcases Nat.lt_or_ge i xs.length with h | h
          · exact h
          · rw [List.getElem?_eq_none h] at hp; cases hp
        obtain ⟨v, hv⟩ := hlaid.2 i p hil hp
        obtain ⟨h0, h1⟩ := hseg2 _ (List.mem_of_getElem? hv)
        have hb := pow_bytes (ks := ks) hdk.up hv h0 h1
        have hn := pn_lo (k := ks[i]?) h0 h1
        have hle := (hdk.seg _ (List.mem_of_getElem? hv)).2.2.1
        rw [← hl3] at hb
        dsimp only at hb hn hle
        rw [List.length_append] at hn hle
        exact ⟨_, hn.1, by omega, hb.1, hb.2, hle⟩
      go_wp2_with fail
      clear hdk hdk2 hdk3 hdk4 hl3 hl5 hseg2 hlaid hg3 hg4 hb4 hg5
      go_loopw [12] (fun i wr' => ∃ (j : Nat), j ≤ xs.length ∧ i = .int .i64 j ∧ w5.grownBy wr' none)
        (fun i _ => xs.length - (intOf i).toNat)
      case atStart => exact ⟨0, by omega, rfl, grown_refl _⟩
      case round =>
        obtain ⟨j, hj, rfl, hgr⟩ := hrel
        by_cases hjl : j < xs.length
        · have hdj : decide ((j : Int) < (xs.length : Int)) = true := by simp; omega
          obtain ⟨p, hp⟩ : ∃ p, xs[j]? = some p := ⟨_, List.getElem?_eq_getElem hjl⟩
          obtain ⟨b, off, rfl, hbl, ⟨hx0, hy0⟩, hxc⟩ := h.at hp
          have hcW0 : W.cell? ⟨b, off + j * 2, none⟩ = some (.slice p.x.a p.x.b.length p.x.c) := by simpa using hxc 0 _ rfl
          have hcW1 : W.cell? ⟨b, off + j * 2 + 1, none⟩ = some (.slice p.y.a p.y.b.length p.y.c) := by simpa using hxc 1 _ rfl
          have hwm : IntKind.i64.wrap (3 * (j : Int)) = 3 * j := by rw [IntKind.wrap_i64]; omega
          have hjn1 : -9223372036854775808 ≤ 3 * (j : Int) := by omega
          have hjn2 : 3 * (j : Int) < 9223372036854775808 := by omega
          obtain ⟨n, hn0, hn1, hbA, hsA, hpl⟩ := HAB.out j p hp
          obtain ⟨bs, hbs⟩ : ∃ bs, Hid (bs = (p.x.b ++ p.y.b).take n.toNat) := ⟨_, rfl⟩
          have hbn : (bs.length : Int) = n := by rw [hbs.out, List.length_take, List.length_append]; omega
          rw [← hbs.out] at hbA
          rw [← hbn] at hsA hn0 hn1
          have hbn' : Hid (bs.length = n.toNat) := by
            show bs.length = n.toNat
            omega
          have HBA : Hid (bytesA (3 * (j : Int)) (l3.map Sg.abs) = bs) := hbA
          have HSA : Hid ((bs.length : Int) = safeA (3 * (j : Int)) (l3.map Sg.abs)) := hsA.symm
          clear hbn hbA hsA
          go_wp2_with fail
          refine (read_any wr (hdx.grown0 hgr) hjn1 hjn2).mono ?_
          rintro r w6 ⟨v6, rfl, hb6, hg6⟩
          rw [HBA.out] at hb6
          obtain ⟨a6, c6, rfl⟩ := hb6.1.shape
          generalize errA (3 * (j : Int)) (l3.map Sg.abs) = e6
          go_wp2_with fail
          refine (read_any w6 ((hdk5.grown0 hgr).grown0 hg6) hjn1 hjn2).mono ?_
          rintro r w7 ⟨v7, rfl, hb7, hg7⟩
          rw [hl53, HBA.out] at hb7
          obtain ⟨a7, c7, rfl⟩ := hb7.1.shape
          generalize errA (3 * (j : Int)) (l5.map Sg.abs) = e7
          have hgw7 := grown_none (grown_none (grown_none hgw5 hgr) hg6) hg7
          obtain ⟨X, hX⟩ : ∃ X, Hid (X = strOfNums p.x.b) := ⟨_, rfl⟩
          obtain ⟨Y, hY⟩ : ∃ Y, Hid (Y = strOfNums p.y.b) := ⟨_, rfl⟩
          have hXs : X.size = p.x.b.length := by rw [hX.out, str_size]
          have hYs : Y.size = p.y.b.length := by rw [hY.out, str_size]
          have hcat : ¬ 9223372036854775807 < p.x.b.length + p.y.b.length := by omega
          go_wp2_with fail
          haveI := lat_nonempty w7
          have c0 := lat_cell (grown_cell hgw7 hcW0)
          have c1 := lat_cell (grown_cell hgw7 hcW1)
          have k0 := lat_conv (A := X) (p.x.ok_grown hgw7 hx0) hX
          have k1 := lat_conv (A := Y) (p.y.ok_grown hgw7 hy0) hY
          refine wp_region_lat (by kernel_rfl) (by kernel_rfl) ?_
          repeat (go_big_quiet_step (fail))
          refine wpQuiet_nil ?_
          intro _ hw'
          obtain ⟨q, hw''⟩ := hw'
          subst hw''
          have hgq := q.h
          generalize q.W = w8 at hgq ⊢
          clear c0 c1 k0 k1
          obtain ⟨XY, hXY⟩ : ∃ XY, XY = X ++ Y := ⟨_, rfl⟩
          rw [← hXY]
          have HXY : Hid (XY = strOfNums (p.x.b ++ p.y.b)) := by
            show XY = _
            rw [hXY, hX.out, hY.out, str_app]
          have hXYs : XY.size = p.x.b.length + p.y.b.length := by rw [HXY.out, str_size, List.length_append]
          clear hXY hcat
          have hgw8 := grown_none hgw7 hgq
          have hdl1 : decide ((bs.length : Int) < (p.x.b.length : Int)) = false := by simp; omega
          have hdl2 : decide ((bs.length : Int) > (p.x.b.length : Int) + (p.y.b.length : Int)) = false := by simp; omega
          have hdl3 : decide (bs.length < p.x.b.length) = false := by simp; omega
          have hdl4 : decide (p.x.b.length + p.y.b.length < bs.length) = false := by simp; omega
          have hdl5 : ¬ bs.length < p.x.b.length := by omega
          have hdl6 : ¬ p.x.b.length + p.y.b.length < bs.length := by omega
          have hsz1 : (bs.length : Int) ≤ (p.x.b.length : Int) + (p.y.b.length : Int) := by omega
          have hsz0 : (0 : Int) ≤ (bs.length : Int) := by omega
          have hEX : Hid (XY.extract 0 bs.length = strOfNums bs) := by
            show XY.extract 0 bs.length = strOfNums bs
            rw [HXY.out, str_take _ _ (by rw [List.length_append]; omega)]
            congr 1
            have hb2 := hbs.out
            rw [hbn'.out, ← hb2]
          go_wp2_with fail
          haveI := lat_nonempty w8
          have c0 := lat_cell (grown_cell hgw8 hcW0)
          have k0 := lat_conv (A := XY.extract 0 bs.length) ((hb6.1.grown0 hg7).grown0 hgq) hEX
          have k1 := lat_conv (A := XY.extract 0 bs.length) (hb7.1.grown0 hgq) hEX
          have k2 := fun q => lat_safe_any (((hdx.grown0 (grown_none hgr hg6)).grown0 hg7).grown0 hgq) hjn1 hjn2 HSA q
          refine wp_region_lat (by kernel_rfl) (by kernel_rfl) ?_
          repeat (go_big_quiet_step (fail))
          go_big_quiet_step ((go_at_call 26; exact k2 _))
          repeat (go_big_quiet_step (fail))
          refine wpQuiet_nil ?_
          intro _ hw'
          obtain ⟨q2, hw''⟩ := hw'
          subst hw''
          clear c0 k0 k1 k2
          go_wp2
          go_roundw
          case rel => exact ⟨j + 1, by omega, by go_num, grown_none (grown_none (grown_none (grown_none hgr hg6) hg7) hgq) q2.h⟩
          case measure => simp [intOf]; omega
        · have hdj : decide ((j : Int) < (xs.length : Int)) = false := by simp; omega
          go_wp2_with fail
          refine (alive_any wr).mono ?_
          rintro r w6 ⟨rfl, hg6⟩
          go_wp2
          go_ret
          exact ⟨rfl, grown_below (grown_none (grown_none hgw5 hgr) hg6)⟩
end Go.Proofs.Ytmhpbemfejkdaaa
