/- belfryref10.SameAll. -/
import Derived.Test.YtblnhcnfeagjhaaGreatDoorSam
import Derived.Test.YtblnhcnfeagjhaaGreatDoorAls
namespace Go.Proofs.YtblnhcnfeagjhaaGreatDoor
open Go.RowKit Go.IntWalk Go.Maps Go.Shelf
set_option linter.unusedVariables false
set_option linter.unusedSimpArgs false
/-- A list of timers that can be read. -/
structure Trs (w : World) (v : Value) (ts : List Tmr) : Prop where
  sh : ∃ a c, v = .slice a ts.length c
  cell : ∀ i x, ts[i]? = some x → ∃ b off c, v = .slice (some ⟨b, off, none⟩) ts.length c ∧ b < w.heap.size ∧ ∀ j u, x.cells[j]? = some u → w.cell? ⟨b, off + i * 5 + j, none⟩ = some u
  st : ∀ x ∈ ts, Sps w.heap.size w x.v x.xs
theorem Trs.kept {w w' : World} {v : Value} {ts : List Tmr} (h : Trs w v ts) (hs : w.heap.size ≤ w'.heap.size) (hb : ∀ k, v.ownBlock = some k → k < w.heap.size → w'.heap[k]? = w.heap[k]?) (hx : ∀ x ∈ ts, ∀ k, x.v.ownBlock = some k → k < w.heap.size → w'.heap[k]? = w.heap[k]?) : Trs w' v ts where
  sh := h.sh
  cell := fun i x hi => by
    obtain ⟨b, off, c, rfl, hbl, hc⟩ := h.cell i x hi
    exact ⟨b, off, c, rfl, by omega, fun j u hu => (World.cell?_of_block (hb b rfl hbl)).trans (hc j u hu)⟩
  st := fun x hxm => ((h.st x hxm).kept (hx x hxm)).up hs
theorem Trs.keep {w w' : World} {v : Value} {ts : List Tmr} (h : Trs w v ts) (hg : w.grownBy w' none) : Trs w' v ts :=
  h.kept hg.size (fun k _ hl => hg.block k hl (by simp)) (fun _ _ k _ hl => hg.block k hl (by simp))
/-- What two timers share but for where their steps lie. -/
def Tmr.core (x : Tmr) : ByteArray × Int × Int × Int × List Sp := (x.nm, x.vr, x.at_, x.ev, x.xs)
set_option maxRecDepth 100000 in
set_option maxHeartbeats 4000000 in
theorem sameAll_any (w : World) {v u : Value} {ts us : List Tmr} (h : Trs w v ts) (k : Trs w u us) (he : ts.map Tmr.core = us.map Tmr.core) (hl : ts.length ≤ 100000) : Calls Tryz.prog 34 #[v, u] w fun e w' => e = .returned (.bool true) ∧ w.grownBy w' none := by
  obtain ⟨a, c, rfl⟩ := h.sh
  obtain ⟨a2, c2, rfl⟩ := k.sh
  have hlen : us.length = ts.length := by have := congrArg List.length he; simpa using this.symm
  rw [hlen]
  go_enter Tryz.func34, Tryz.ntmps34
  go_wp2_with fail
  go_loopw [5] (fun iv wr => ∃ i : Nat, iv = .int .i64 i ∧ i ≤ ts.length ∧ Hid (w.grownBy wr none))
    (fun iv _ => ts.length - (intOf iv).toNat)
  case atStart => exact ⟨0, rfl, by omega, ⟨grown_refl w⟩⟩
  case round =>
    obtain ⟨i, rfl, hi, hg⟩ := hrel
    by_cases hlt : i < ts.length
    · have hdi : decide ((i : Int) < ts.length) = true := by simp; omega
      obtain ⟨x, hx⟩ : ∃ x, ts[i]? = some x := ⟨_, List.getElem?_eq_getElem hlt⟩
      obtain ⟨y, hy⟩ : ∃ y, us[i]? = some y := ⟨_, List.getElem?_eq_getElem (by omega)⟩
      have hxy : x.core = y.core := by
        have h1 : (ts.map Tmr.core)[i]? = some x.core := by simp [hx]
        have h2 : (us.map Tmr.core)[i]? = some y.core := by simp [hy]
        rw [he, h2] at h1
        exact (Option.some.inj h1).symm
      obtain ⟨b, off, c', e1, hb, hc⟩ := (h.keep hg.out).cell i x hx
      obtain ⟨b2, off2, c2', e2, hb2, hc2⟩ := (k.keep hg.out).cell i y hy
      rw [hlen] at e2
      simp only [Value.slice.injEq] at e1 e2
      obtain ⟨rfl, -, -⟩ := e1
      obtain ⟨rfl, -, -⟩ := e2
      have hs1 := (h.keep hg.out).st x (List.mem_of_getElem? hx)
      have hs2 := (k.keep hg.out).st y (List.mem_of_getElem? hy)
      obtain ⟨nm, vr, at_, ev, sv, xs⟩ := x
      obtain ⟨nm2, vr2, at2, ev2, sv2, xs2⟩ := y
      simp only [Tmr.core, Prod.mk.injEq] at hxy
      obtain ⟨rfl, rfl, rfl, rfl, rfl⟩ := hxy
      have k0 := hc 0 _ rfl
      have k1 := hc 1 _ rfl
      have k2 := hc 2 _ rfl
      have k3 := hc 3 _ rfl
      have k4 := hc 4 _ rfl
      have m0 := hc2 0 _ rfl
      have m1 := hc2 1 _ rfl
      have m2 := hc2 2 _ rfl
      have m3 := hc2 3 _ rfl
      have m4 := hc2 4 _ rfl
      simp only [Nat.add_zero] at k0 m0 hs1 hs2
      obtain ⟨va, vc, rfl, _⟩ := hs1.shape
      obtain ⟨ua, uc, rfl, _⟩ := hs2.shape
      have hn1 : i < ts.length := hlt
      have hn2 : (i : Int) < (ts.length : Int) := by omega
      have hn3 : (0 : Int) ≤ (i : Int) := by omega
      haveI := lat_nonempty wr
      have hsa : Hid (∀ p : Lat wr, Calls Tryz.prog 31 #[.agg #[.string nm, .int .i64 vr, .int .u64 at_, .int .u64 ev, .slice va xs.length vc], .agg #[.string nm, .int .i64 vr, .int .u64 at_, .int .u64 ev, .slice ua xs.length uc]] p.W fun e w' => e = .returned (.bool true) ∧ ∃ q : Lat wr, w' = q.W) := ⟨fun p => by
        refine (tsame_any p.W ⟨nm, vr, at_, ev, .slice va xs.length vc, xs⟩ ((hs1.keep p.h (Nat.le_refl _)).up p.h.size) ((hs2.keep p.h (Nat.le_refl _)).up p.h.size)).mono ?_
        rintro e w' ⟨rfl, hg'⟩
        exact ⟨rfl, ⟨w', grown_none p.h hg'⟩, rfl⟩⟩
      have kk0 := lat_cell k0
      have kk1 := lat_cell k1
      have kk2 := lat_cell k2
      have kk3 := lat_cell k3
      have kk4 := lat_cell k4
      have mm0 := lat_cell m0
      have mm1 := lat_cell m1
      have mm2 := lat_cell m2
      have mm3 := lat_cell m3
      have mm4 := lat_cell m4
      have hsaw := hsa.out
      clear hx hy hc hc2 k0 k1 k2 k3 k4 m0 m1 m2 m3 m4 hs1 hs2 hb hb2 he hsa
      go_wp2_with fail
      refine wp_region_lat (by kernel_rfl) (by kernel_rfl) ?_
      repeat (go_big_quiet_step ((go_at_call 31; exact hsaw _)))
      refine wpQuiet_nil ?_
      intro _ hw'
      obtain ⟨q, hw''⟩ := hw'
      subst hw''
      have hg2 : Hid (w.grownBy q.W none) := ⟨grown_none hg.out q.h⟩
      clear kk0 kk1 kk2 kk3 kk4 mm0 mm1 mm2 mm3 mm4 hsaw
      go_wp2_with fail
      go_roundw
      case rel => exact ⟨i + 1, by go_num, by omega, hg2⟩
      case measure => simp [intOf]; omega
    · have hdi : decide ((i : Int) < ts.length) = false := by simp; omega
      go_wp2_with fail
      go_ret
      exact ⟨rfl, hg.out⟩
end Go.Proofs.YtblnhcnfeagjhaaGreatDoor
