/- The walk of a disk's Power. -/
import Derived.Test.YtgblekdllcngnaaPow
namespace Go.Proofs.Ytgblekdllcngnaa
open Go.RowKit Go.IntWalk Go.Maps Go.Sort
set_option linter.unusedVariables false

/-- New since w, and neither of these two. -/
def Pn (w : World) (sb bm i : Nat) : Prop := w.heap.size ≤ i ∧ i ≠ sb ∧ i ≠ bm
/-- A disk's root has turned. -/
theorem Dsk.turn_root {w : World} {sb bm : Nat} {N : Nat → Prop} {l : List Sg} {root : List Int} (h : Dsk w sb bm N l root) {v : Value} {zs : List Int} (hb : Btx N w v zs) (hl : zs.length ≤ 1024) : Dsk (w.setCell ⟨sb, 1, none⟩ v) sb bm N l zs := by
  have hg2 := grown_setCell w ⟨sb, 1, none⟩ v
  have hns : ∀ k, some sb = some k → ¬ N k := fun k hk => by cases hk; exact h.nsb
  obtain ⟨rv, c1, hr⟩ := h.c1
  have f1 := h.f1
  refine ⟨?_, ⟨_, ?_, hb.grown hg2 hns⟩, ?_, h.nsb, h.nbm, World.ownsMap.kept h.mp hg2 (fun e => h.ne (by cases e; rfl)), h.up, h.len, fun x hx => ?_, hl⟩
  · have c0 := h.c0
    go_simp
  · have c0 := h.c0
    go_simp
  · have c0 := h.c0
    go_simp
  · obtain ⟨a1, a2, a3, a4, a5, a6⟩ := h.seg x hx
    exact ⟨a1, a2, a3, a4, a5, a6.grown hg2 hns⟩

set_option maxRecDepth 100000 in
set_option maxHeartbeats 4000000 in
/-- disk.Power. -/
theorem power_any (w : World) {sb bm : Nat} {N : Nat → Prop} {l : List Sg} {root : List Int} (h : Dsk w sb bm N l root) (ka : Option Addr) (kcap : Nat) (ks : List Int) (hk : Ins w.heap.size w (.slice ka ks.length kcap) ks) :
    Calls Try.prog 17 #[.pointer (some ⟨sb, 0, none⟩), .slice ka ks.length kcap] w fun r w' => ∃ sb2 bm2 l2, r = .returned (.pointer (some ⟨sb2, 0, none⟩)) ∧ w.heap.size ≤ sb2 ∧ w.heap.size ≤ bm2 ∧ Dsk w' sb2 bm2 (Pn w sb2 bm2) l2 root ∧ l2.map Sg.abs = powS ks l ∧ w.grownBy w' none := by
  have hrl := h.rl
  have hlen := h.len
  go_enter Try.func17, Try.ntmps17
  go_wp2_with fail
  refine (new_any w).mono ?_
  rintro r w1 ⟨sb2, bm2, rfl, hs2, hb2, hd2, hg1⟩
  have h1 := h.grown0 hg1
  obtain ⟨rv, c1, hrb⟩ := h1.c1
  obtain ⟨ra, rcap, rfl⟩ := hrb.1.shape
  go_wp2_with fail
  refine (clone_any _ root w1 hrb.1 (by omega)).mono ?_
  rintro r w2 ⟨v2, rfl, hb3, hg2⟩
  obtain ⟨ra2, rcap2, rfl⟩ := hb3.1.shape
  have hs1 := hg1.size
  have hsb2 := hd2.sbl
  have hbm2 := hd2.bml
  have hd3 : Dsk w2 sb2 bm2 (Pn w sb2 bm2) [] [] := (hd2.grown0 hg2).mono (fun _ e => e.elim) (fun e => e.2.1 rfl) (fun e => e.2.2 rfl)
  have hd4 := hd3.turn_root (v := .slice ra2 root.length rcap2) (zs := root) (hb3.mono fun k hk => ⟨by omega, by omega, by omega⟩) hrl
  have hg3 := grown_setCell w2 ⟨sb2, 1, none⟩ (.slice ra2 root.length rcap2)
  obtain ⟨rv2, c21, _⟩ := hd3.c1
  have f21 := hd3.f1
  have hg13 : w.grownBy (w2.setCell ⟨sb2, 1, none⟩ (.slice ra2 root.length rcap2)) none := grown_new (grown_none hg1 hg2) hg3 hs2
  go_wp2_with fail
  clear c21 f21 hd3 hd2
  generalize w2.setCell ⟨sb2, 1, none⟩ (.slice ra2 root.length rcap2) = w3 at *
  refine (segments_any w3 (h.grown0 hg13)).mono ?_
  rintro r w4 ⟨g, cap, rfl, hrow, hg4⟩
  have hd5 := hd4.grown0 hg4
  have hg14 := grown_none hg13 hg4
  have hgg := (hrow.lt g rfl).1
  have hg3s := hg3.size
  have hw3 : bm2 < w3.heap.size := hd4.bml
  have hrc : ∀ j, j < l.length → w4.cell? ⟨g, j, none⟩ = some (.int .i64 ((l.map Sg.n)[j]?.getD 0)) := fun j hj => by
    have hc := hrow.cells (g := g) rfl j (.int .i64 ((l.map Sg.n)[j]?.getD 0)) (by simp [hj])
    have hadd : (⟨g, 0, none⟩ : Addr).add j = ⟨g, j, none⟩ := by unfold Addr.add; split <;> simp_all
    rwa [hadd] at hc
  have hgl : g < w4.heap.size := (hrow.lt g rfl).2
  go_wp2_with fail
  clear hrow hd4 hg2 hg1 hg3 hb3 c1 hrb h1 hg3s
  go_loopw [24] (fun i wr => ∃ (j : Nat) (l2 : List Sg), j ≤ l.length ∧ i = .int .i64 j ∧ Dsk wr sb2 bm2 (Pn w sb2 bm2) l2 root ∧ l2.map Sg.abs = powN ks l j ∧ w.grownBy wr none ∧ w4.grownBy wr (some bm2))
    (fun i _ => l.length - (intOf i).toNat)
  case atStart => exact ⟨0, [], by omega, rfl, hd5, rfl, hg14, (grown_refl _).but _⟩
  case round =>
    obtain ⟨j, l2, hj, rfl, hd, hpow, hgw, hg4w⟩ := hrel
    by_cases hjl : j < l.length
    · have hdj : decide ((j : Int) < (l.length : Int)) = true := by simp; omega
      obtain ⟨x, hx⟩ : ∃ x, l[j]? = some x := ⟨_, List.getElem?_eq_getElem hjl⟩
      have hm := List.mem_of_getElem? hx
      have hget := h.up.get hm
      have hdw := h.grown0 hgw
      have hseg := hdw.seg x hm
      have hjg : wr.cell? ⟨g, j, none⟩ = some (.int .i64 x.n) := by
        have := hg4w.cell (hrc j hjl) (fun e => by have e' : g = bm2 := by simpa using e
                                                   omega)
        rw [this, List.getElem?_map, hx]
        rfl
      have c0 := hdw.c0
      have hlk := hdw.mp.lookup1 (n := x.n) (by omega) (by omega) hget
      obtain ⟨xa, xcap, hxv⟩ := hseg.2.2.2.2.2.1.shape
      rw [hxv] at hlk
      have hbx : Btx N wr (.slice xa x.b.length xcap) x.b := hxv ▸ hseg.2.2.2.2.2
      have hpl := pn_lo (k := ks[j]?) hseg.2.2.2.1 hseg.2.2.2.2.1
      have hgA := World.grownBy_alloc wr (.cells #[.slice xa x.b.length xcap, .int .i64 x.s] 67) none
      have cA : (wr.alloc (.cells #[.slice xa x.b.length xcap, .int .i64 x.s] 67)).cell? ⟨sb2, 0, none⟩ = some (.map (some bm2)) := (hd.grown0 hgA).c0
      have hup : ∀ y ∈ l2, y.n < x.n := fun y hy => by
        obtain ⟨i, z, hi, hz, e⟩ := powN_mem (hpow ▸ List.mem_map.2 ⟨y, hy, rfl⟩)
        have e' : y.n = z.n := e
        rw [e']
        have hil : i < l.length := by omega
        have h1 := List.pairwise_iff_getElem.1 h.up i j hil hjl hi
        rw [List.getElem?_eq_getElem hil] at hz
        rw [List.getElem?_eq_getElem hjl] at hx
        cases hz
        cases hx
        exact h1
      -- what the round's end comes to
      have stay : pn ks[j]? x ≤ 0 → l2.map Sg.abs = powN ks l (j + 1) := fun hle => by
        rw [powN_succ hx, pwItem, if_neg (by omega), List.append_nil]
        exact hpow
      have MORE : Hid (∀ nn, nn = pn ks[j]? x → 0 < nn → powN ks l (j + 1) = l2.map Sg.abs ++ [(x.n, x.b.take nn.toNat, nn)]) := fun nn hn hp => by
        rw [powN_succ hx, pwItem, ← hn, if_pos hp, hpow]
      have HL2 : Hid (l2.length < 128) := by
        show l2.length < 128
        have h1 := congrArg List.length hpow
        have h2 := powN_len ks l j
        rw [List.length_map] at h1
        omega
      clear hxv hrc hm hget hpow
      by_cases hjk : j < ks.length
      · have hdk : decide ((j : Int) < (ks.length : Int)) = true := by simp; omega
        obtain ⟨kb, ko, rfl, hkb, hkc⟩ := (hk.grown0 hgw).at hjk
        have hkz := hk.2 (ks[j]?.getD 0) (by simp [hjk])
        obtain ⟨kk, hkk⟩ : ∃ kk, kk = ks[j]?.getD 0 := ⟨_, rfl⟩
        rw [← hkk] at hkc hkz
        have hks : Hid (ks[j]? = some kk) := by
          show ks[j]? = some kk
          rw [hkk, List.getElem?_eq_getElem hjk]
          rfl
        clear hkk
        have hkc2 := grown_cell hgA hkc
        obtain ⟨c, hc⟩ : ∃ c, Hid (c = cr kk (x.b.length - x.s)) := ⟨_, rfl⟩
        have hclo : 0 ≤ c := by rw [hc.out]; exact cr_lo _ _ (by omega)
        have hchi : c ≤ x.b.length - x.s := by rw [hc.out]; exact cr_hi _ _ (by omega)
        have hw1 : IntKind.i64.wrap ((x.b.length : Int) - x.s) = x.b.length - x.s := by rw [IntKind.wrap_i64]; omega
        have hw2 : IntKind.i64.wrap (x.s + c) = x.s + c := by rw [IntKind.wrap_i64]; omega
        obtain ⟨nn, hne⟩ : ∃ nn, nn = x.s + c := ⟨_, rfl⟩
        have hnn : Hid (nn = pn ks[j]? x) := by
          show nn = pn ks[j]? x
          rw [hks.out, hne, hc.out]
          rfl
        replace hw2 : IntKind.i64.wrap (x.s + c) = nn := by rw [hw2, hne]
        have hnlo : x.s ≤ nn := by omega
        have hnhi : nn ≤ x.b.length := by omega
        clear hne
        have hkb0 : (0 : Int) ≤ (j : Int) := by omega
        go_wp2_with fail
        go_region_held3 (fun w' => w'.cell? ⟨kb, ko + j, none⟩ = some (.int .i64 kk) ∧ w'.cell? ⟨wr.heap.size, 0, none⟩ = some (.slice xa x.b.length xcap) ∧ w'.cell? ⟨wr.heap.size, 1, none⟩ = some (.int .i64 x.s))
          (first | go_keep | assumption)
          ((go_at_call 39
            refine (countRound_any kk _ c hc hkz.1 hkz.2 (by omega) (by omega) _).mono ?_
            rintro r w5 ⟨rfl, rfl⟩))
        by_cases hpos : 0 < nn
        · have hdp : decide (nn > 0) = true := by simpa using hpos
          have hB : wr.grownBy (wr.alloc (.cells #[.slice xa x.b.length xcap, .int .i64 x.s] 67)).drew.drew none := grown_none (grown_none hgA (grown_drew _)) (grown_drew _)
          have hdW := hd.grown0 hB
          have hbW := hbx.grown hB (by simp)
          have hn1 := hnn.out
          have hki : Hid (((x.b.take nn.toNat).length : Int) = nn) := by
            show ((x.b.take nn.toNat).length : Int) = nn
            rw [List.length_take]; omega
          obtain ⟨a', hcut, hb3⟩ := run_cut hbW nn (by omega) (by omega)
          have HN1 : Hid (some sb2 ≠ some bm2) := fun e => hd.ne (by cases e; rfl)
          have HN2 : Hid (some wr.heap.size ≠ some bm2) := fun e => by have := hd.bml; cases e; omega
          have hul := hd.up
          have hll := hd.len
          have hll2 := HL2.out
          have e3 := hdW.c0
          have e4 : (wr.alloc (.cells #[.slice xa x.b.length xcap, .int .i64 x.s] 67)).drew.drew.cell? ⟨wr.heap.size, 0, none⟩ = some (.slice xa x.b.length xcap) := by simp
          clear hn1
          go_wp2_with fail
          go_region_held3 (fun w' => w'.cell? ⟨sb2, 0, none⟩ = some (.map (some bm2)) ∧ w'.cell? ⟨wr.heap.size, 0, none⟩ = some (.slice xa x.b.length xcap))
            (first
              | go_keep
              | exact ⟨grown_cell hg5 (by assumption), grown_cell hg5 (by assumption)⟩
              | (go_split_ands; exact ⟨ht.grown.cell (by assumption) HN1.out, ht.grown.cell (by assumption) HN2.out⟩))
            ((go_at_call 40
              refine (allSafe_int _ (x.b.take nn.toNat) nn hki _ hb3.1 (by have := hki.out; omega)).mono ?_
              rintro r w5 ⟨v5, rfl, hb5, hg5⟩
              obtain ⟨w6, hrun, hmp, ht⟩ := (hdW.grown0 hg5).mp.store hul (by unfold maxLen; omega) ⟨x.n, v5, x.b.take nn.toNat, nn⟩ (by dsimp only; omega) (by dsimp only; omega)
              dsimp only at hrun))
          all_goals
            go_wp2
            go_roundw
            case rel =>
              have hki' := hki.out
              have hn1 := hnn.out
              have hws := hgw.size
              have hwb := hB.size
              have h6 := (hdW.grown0 hg5).turn_put ht.grown _ hmp (.inr hll2) ⟨hseg.1, hseg.2.1, by dsimp only; omega, by dsimp only; omega, by dsimp only; omega, hb5.mono fun i hi => ⟨by omega, by have := hdW.sbl; omega, by have := hdW.bml; omega⟩⟩
              rw [putS_last (by exact hup)] at h6
              have hgz : wr.grownBy _ (some bm2) := grown_same (grown_none hB hg5) ht.grown
              refine ⟨j + 1, _, by omega, by go_num, h6, ?_, grown_new hgw hgz hb2, hg4w.andThen hgz fun i hi => .inr (by rw [hi])⟩
              rw [List.map_append, MORE.out nn hn1 hpos]
              rfl
            case measure => simp [intOf]; omega
        · have hdp : decide (nn > 0) = false := by simpa using hpos
          have hB : wr.grownBy (wr.alloc (.cells #[.slice xa x.b.length xcap, .int .i64 x.s] 67)).drew none := grown_none hgA (grown_drew _)
          go_wp2
          go_roundw
          case rel =>
            have hn1 := hnn.out
            exact ⟨j + 1, l2, by omega, by go_num, hd.grown0 hB, stay (by omega), grown_none hgw hB, grown_add hg4w hB⟩
          case measure => simp [intOf]; omega
      · have hdk : decide ((j : Int) < (ks.length : Int)) = false := by simp; omega
        have hnn : Hid (x.s = pn ks[j]? x) := by
          show x.s = pn ks[j]? x
          rw [List.getElem?_eq_none (by omega)]
          rfl
        by_cases hpos : 0 < x.s
        · have hdp : decide (x.s > 0) = true := by simpa using hpos
          have hB : wr.grownBy (wr.alloc (.cells #[.slice xa x.b.length xcap, .int .i64 x.s] 67)).drew none := grown_none hgA (grown_drew _)
          have hdW := hd.grown0 hB
          have hbW := hbx.grown hB (by simp)
          have hn1 := hnn.out
          have hki : Hid (((x.b.take x.s.toNat).length : Int) = x.s) := by
            show ((x.b.take x.s.toNat).length : Int) = x.s
            rw [List.length_take]; omega
          obtain ⟨a', hcut, hb3⟩ := run_cut hbW x.s (by omega) (by omega)
          have HN1 : Hid (some sb2 ≠ some bm2) := fun e => hd.ne (by cases e; rfl)
          have HN2 : Hid (some wr.heap.size ≠ some bm2) := fun e => by have := hd.bml; cases e; omega
          have hul := hd.up
          have hll := hd.len
          have hll2 := HL2.out
          have e3 := hdW.c0
          have e4 : (wr.alloc (.cells #[.slice xa x.b.length xcap, .int .i64 x.s] 67)).drew.cell? ⟨wr.heap.size, 0, none⟩ = some (.slice xa x.b.length xcap) := by simp
          clear hn1
          go_wp2_with fail
          go_region_held3 (fun w' => w'.cell? ⟨sb2, 0, none⟩ = some (.map (some bm2)) ∧ w'.cell? ⟨wr.heap.size, 0, none⟩ = some (.slice xa x.b.length xcap))
            (first
              | go_keep
              | exact ⟨grown_cell hg5 (by assumption), grown_cell hg5 (by assumption)⟩
              | (go_split_ands; exact ⟨ht.grown.cell (by assumption) HN1.out, ht.grown.cell (by assumption) HN2.out⟩))
            ((go_at_call 40
              refine (allSafe_int _ (x.b.take x.s.toNat) x.s hki _ hb3.1 (by have := hki.out; omega)).mono ?_
              rintro r w5 ⟨v5, rfl, hb5, hg5⟩
              obtain ⟨w6, hrun, hmp, ht⟩ := (hdW.grown0 hg5).mp.store hul (by unfold maxLen; omega) ⟨x.n, v5, x.b.take x.s.toNat, x.s⟩ (by dsimp only; omega) (by dsimp only; omega)
              dsimp only at hrun))
          all_goals
            go_wp2
            go_roundw
            case rel =>
              have hki' := hki.out
              have hn1 := hnn.out
              have hws := hgw.size
              have hwb := hB.size
              have h6 := (hdW.grown0 hg5).turn_put ht.grown _ hmp (.inr hll2) ⟨hseg.1, hseg.2.1, by dsimp only; omega, by dsimp only; omega, by dsimp only; omega, hb5.mono fun i hi => ⟨by omega, by have := hdW.sbl; omega, by have := hdW.bml; omega⟩⟩
              rw [putS_last (by exact hup)] at h6
              have hgz : wr.grownBy _ (some bm2) := grown_same (grown_none hB hg5) ht.grown
              refine ⟨j + 1, _, by omega, by go_num, h6, ?_, grown_new hgw hgz hb2, hg4w.andThen hgz fun i hi => .inr (by rw [hi])⟩
              rw [List.map_append, MORE.out x.s hn1 hpos]
              rfl
            case measure => simp [intOf]; omega
        · have hdp : decide (x.s > 0) = false := by simpa using hpos
          have hB : wr.grownBy (wr.alloc (.cells #[.slice xa x.b.length xcap, .int .i64 x.s] 67)) none := hgA
          go_wp2
          go_roundw
          case rel =>
            have hn1 := hnn.out
            exact ⟨j + 1, l2, by omega, by go_num, hd.grown0 hB, stay (by omega), grown_none hgw hB, grown_add hg4w hB⟩
          case measure => simp [intOf]; omega
    · have hdj : decide ((j : Int) < (l.length : Int)) = false := by simp; omega
      go_wp2
      go_ret
      obtain rfl : j = l.length := by omega
      exact ⟨sb2, bm2, l2, rfl, hs2, hb2, hd, hpow, hgw⟩
end Go.Proofs.Ytgblekdllcngnaa
