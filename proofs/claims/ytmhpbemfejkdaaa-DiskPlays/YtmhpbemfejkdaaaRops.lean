/- What the document's disk does: Sync, Cut, Swap, Append. -/
import Derived.Test.YtmhpbemfejkdaaaWith
import Derived.Test.YtmhpbemfejkdaaaChg
namespace Go.Proofs.Ytmhpbemfejkdaaa
open Go.RowKit Go.IntWalk Go.Maps Go.Sort
set_option linter.unusedVariables false
set_option linter.unusedSimpArgs false

theorem or_or {N : Nat → Prop} {w w' : World} (hg : w.grownBy w' none) : ∀ k, Or_ N w' k → Or_ N w k := fun k hk => hk.elim .inl fun e => .inr (by have := hg.size; omega)
set_option maxRecDepth 100000 in
set_option maxHeartbeats 1000000 in
/-- belfryref03.Sync. -/
theorem rsync_some (w : World) {rb : Nat} {N : Nat → Prop} {l : List Sg} {root : List Int} (h : Rsk w rb N l root) {n : Int} {x : Sg} (hx : getS n l = some x) :
    Calls Try.prog 12 #[.pointer (some ⟨rb, 0, none⟩), .int .i64 n] w fun r w' => r = .returned (.int .i64 0) ∧ Rsk w' rb (Or_ N w) (putS ⟨n, x.v, x.b, x.b.length⟩ l) root ∧ w.grownBy w' (some rb) := by
  obtain ⟨sv, c0, hs⟩ := h.c0
  obtain ⟨a, cap, rfl⟩ := hs.shape
  have hlen := h.len
  have hseg := h.seg x (getS_mem hx).1
  have hn := (getS_mem hx).2
  go_enter Try.func12, Try.ntmps12
  go_wp2_with fail
  refine (rfind_any w h n).mono ?_
  rintro r w1 ⟨i, rfl, rfl, hf⟩
  rcases hf with ⟨e, _⟩ | ⟨k, y, rfl, hk, hy⟩
  · rw [hx] at e; cases e
  rw [hx] at hy
  cases hy
  have hkl : k < l.length := by
    rcases Nat.lt_or_ge k l.length with h | h
    · exact h
    · rw [List.getElem?_eq_none h] at hk; cases hk
  obtain ⟨b, off, rfl, hN, hbl, d0, d1, d2⟩ := hs.at hk
  obtain ⟨xa, xc, hxv⟩ := hseg.2.2.2.2.2.1.shape
  rw [hxv] at d1
  have hd1 : decide ((k : Int) < 0) = false := by simp
  have hki : (k : Int) < (l.length : Int) := by omega
  have hgA := World.grownBy_alloc w (.cells #[.int .i64 x.n, .slice xa x.b.length xc, .int .i64 x.b.length] 64) none
  have hW := with_any _ (h.grown0 hgA) x.n xa xc x.b x.b.length hseg.1 hseg.2.1 hseg.2.2.1 (by omega) (by omega) ((hxv ▸ hseg.2.2.2.2.2.grown hgA (by simp)).mono fun k hk => .inl hk) (.inl (by rw [hn, hx]; rfl))
  have HX : Hid (getS n l = some x) := hx
  have HN : Hid (x.n = n) := hn
  clear hx hn hk hseg
  go_wp2_with fail
  refine hW.mono ?_
  rintro r w2 ⟨rfl, hR, hg2⟩
  go_wp2
  go_ret
  rw [← HN.out, hxv]
  exact ⟨rfl, hR.mono (or_or hgA) h.wide.nrb, grown_same hgA hg2⟩
set_option maxRecDepth 100000 in
set_option maxHeartbeats 1000000 in
theorem rsync_none (w : World) {rb : Nat} {N : Nat → Prop} {l : List Sg} {root : List Int} (h : Rsk w rb N l root) {n : Int} (hx : getS n l = none) :
    Calls Try.prog 12 #[.pointer (some ⟨rb, 0, none⟩), .int .i64 n] w fun r w' => r = .returned (.int .i64 31) ∧ w = w' := by
  go_enter Try.func12, Try.ntmps12
  go_wp2_with fail
  refine (rfind_any w h n).mono ?_
  rintro r w1 ⟨i, rfl, rfl, hf⟩
  rcases hf with ⟨_, rfl⟩ | ⟨k, y, rfl, hk, hy⟩
  rotate_left
  · rw [hx] at hy; cases hy
  go_wp2
  go_ret
  exact ⟨rfl, rfl⟩
set_option maxRecDepth 100000 in
set_option maxHeartbeats 1000000 in
/-- belfryref03.Cut. -/
theorem rcut_none (w : World) {rb : Nat} {N : Nat → Prop} {l : List Sg} {root : List Int} (h : Rsk w rb N l root) {n : Int} (k : Int) (hx : getS n l = none) :
    Calls Try.prog 14 #[.pointer (some ⟨rb, 0, none⟩), .int .i64 n, .int .i64 k] w fun r w' => r = .returned (.int .i64 31) ∧ w = w' := by
  go_enter Try.func14, Try.ntmps14
  go_wp2_with fail
  refine (rfind_any w h n).mono ?_
  rintro r w1 ⟨i, rfl, rfl, hf⟩
  rcases hf with ⟨_, rfl⟩ | ⟨k, y, rfl, hk, hy⟩
  rotate_left
  · rw [hx] at hy; cases hy
  go_wp2
  go_ret
  exact ⟨rfl, rfl⟩
set_option maxRecDepth 100000 in
set_option maxHeartbeats 1000000 in
theorem rcut_bad (w : World) {rb : Nat} {N : Nat → Prop} {l : List Sg} {root : List Int} (h : Rsk w rb N l root) {n : Int} {x : Sg} (k : Int) (hx : getS n l = some x) (hkb : k < 0 ∨ x.b.length < k) :
    Calls Try.prog 14 #[.pointer (some ⟨rb, 0, none⟩), .int .i64 n, .int .i64 k] w fun r w' => r = .returned (.int .i64 31) ∧ w = w' := by
  obtain ⟨sv, c0, hs⟩ := h.c0
  obtain ⟨a, cap, rfl⟩ := hs.shape
  have hlen := h.len
  have hseg := h.seg x (getS_mem hx).1
  go_enter Try.func14, Try.ntmps14
  go_wp2_with fail
  refine (rfind_any w h n).mono ?_
  rintro r w1 ⟨i, rfl, rfl, hf⟩
  rcases hf with ⟨e, _⟩ | ⟨j, y, rfl, hj, hy⟩
  · rw [hx] at e; cases e
  rw [hx] at hy
  cases hy
  have hjl : j < l.length := by
    rcases Nat.lt_or_ge j l.length with h | h
    · exact h
    · rw [List.getElem?_eq_none h] at hj; cases hj
  obtain ⟨b, off, rfl, hN, hbl, d0, d1, d2⟩ := hs.at hj
  obtain ⟨xa, xc, hxv⟩ := hseg.2.2.2.2.2.1.shape
  rw [hxv] at d1
  have hd1 : decide ((j : Int) < 0) = false := by simp
  have hki : (j : Int) < (l.length : Int) := by omega
  clear hx hj hseg
  by_cases hk0 : k < 0
  · have hd2 : decide (k < 0) = true := by simpa using hk0
    clear hk0 hkb
    go_wp2
    go_ret
    exact ⟨rfl, rfl⟩
  · have hd2 : decide (k < 0) = false := by simpa using hk0
    have hd3 : decide (k > (x.b.length : Int)) = true := by simp; omega
    clear hk0 hkb
    go_wp2
    go_ret
    exact ⟨rfl, rfl⟩
set_option maxRecDepth 100000 in
set_option maxHeartbeats 1000000 in
theorem rcut_ok (w : World) {rb : Nat} {N : Nat → Prop} {l : List Sg} {root : List Int} (h : Rsk w rb N l root) {n : Int} {x : Sg} (k : Int) (hx : getS n l = some x) (hk0 : 0 ≤ k) (hk1 : k ≤ x.b.length) :
    Calls Try.prog 14 #[.pointer (some ⟨rb, 0, none⟩), .int .i64 n, .int .i64 k] w fun r w' => r = .returned (.int .i64 0) ∧ (∃ v', Rsk w' rb (Or_ N w) (putS ⟨n, v', x.b.take k.toNat, k⟩ l) root) ∧ w.grownBy w' (some rb) := by
  obtain ⟨sv, c0, hs⟩ := h.c0
  obtain ⟨a, cap, rfl⟩ := hs.shape
  have hlen := h.len
  have hseg := h.seg x (getS_mem hx).1
  have hn := (getS_mem hx).2
  go_enter Try.func14, Try.ntmps14
  go_wp2_with fail
  refine (rfind_any w h n).mono ?_
  rintro r w1 ⟨i, rfl, rfl, hf⟩
  rcases hf with ⟨e, _⟩ | ⟨j, y, rfl, hj, hy⟩
  · rw [hx] at e; cases e
  rw [hx] at hy
  cases hy
  have hjl : j < l.length := by
    rcases Nat.lt_or_ge j l.length with h | h
    · exact h
    · rw [List.getElem?_eq_none h] at hj; cases hj
  obtain ⟨b, off, rfl, hN, hbl, d0, d1, d2⟩ := hs.at hj
  obtain ⟨xa, xc, hxv⟩ := hseg.2.2.2.2.2.1.shape
  rw [hxv] at d1
  have hd1 : decide ((j : Int) < 0) = false := by simp
  have hki : (j : Int) < (l.length : Int) := by omega
  have hd2 : decide (k < 0) = false := by simpa using hk0
  have hd3 : decide (k > (x.b.length : Int)) = false := by simp; omega
  obtain ⟨a', hcut, hb3⟩ := run_cut (hxv ▸ hseg.2.2.2.2.2) k hk0 hk1
  have hkl : (x.b.take k.toNat).length = k.toNat := by rw [List.length_take]; omega
  have hb4 : Btx (Or_ N w) w (.slice a' (x.b.take k.toNat).length xc) (x.b.take k.toNat) := by
    rw [hkl]
    exact hb3.mono fun k hk => .inl hk
  have hW := with_any w h n a' xc (x.b.take k.toNat) k (by omega) (by omega) (by omega) hk0 (by omega) hb4 (.inl (by rw [hx]; rfl))
  rw [hkl] at hW
  have hsn := hcut x.b.length w
  clear hx hj hseg hn hkl hb3 hb4 hcut
  go_wp2_with fail
  refine hW.mono ?_
  rintro r w2 ⟨rfl, hR, hg2⟩
  go_wp2
  go_ret
  exact ⟨rfl, ⟨_, hR⟩, hg2⟩
set_option maxRecDepth 100000 in
set_option maxHeartbeats 1000000 in
/-- belfryref03.Swap. -/
theorem rswap_ok (w : World) {rb : Nat} {N : Nat → Prop} {l : List Sg} {root : List Int} (h : Rsk w rb N l root) (v : Value) (zs : List Int) (hz : Bts w.heap.size w v zs) (hl : zs.length ≤ 1024) :
    Calls Try.prog 20 #[.pointer (some ⟨rb, 0, none⟩), v] w fun r w' => r = .returned (.int .i64 0) ∧ Rsk w' rb (Or_ N w) l zs ∧ w.grownBy w' (some rb) := by
  obtain ⟨a, cap, rfl⟩ := hz.shape
  have hd : decide ((zs.length : Int) > 1024) = false := by simp; omega
  have hrb := h.rbl
  go_enter Try.func20, Try.ntmps20
  go_wp2_with (at_builtin; go_must (refine wpList_append_bts _ rfl (.tmp 9) (.tmp 10) rfl w.heap.size w.heap.size _ _ _ [] zs rfl rfl (lit_none w _ (Nat.le_refl _)) (hz.below ((Below.refl _ _).alloc (Nat.le_refl _) _)) (by omega) (by simp) ?_); intro v1 w1 hr1 hg1; have hg01 : w.grownBy w1 none := (World.grownBy_alloc w _ none).andThen hg1 fun j hj => .inl (by cases hj; exact Nat.le_refl _); have hR1 := h.wide.grown0 hg01; obtain ⟨rv, c1, _⟩ := hR1.c1; have f1 := hR1.f1; have hb1 := Btx.of_own hr1 (by simpa using hz.2); obtain ⟨a1, cp1, rfl⟩ := hb1.1.shape)
  go_ret
  have hg2 := grown_setCell w1 ⟨rb, 1, none⟩ (.slice a1 ([] ++ zs).length cp1)
  have hns : ∀ k, some rb = some k → ¬ Or_ N w k := fun k hk => by cases hk; exact hR1.nrb
  obtain ⟨sv, c0, hsv⟩ := hR1.c0
  refine ⟨rfl, ⟨⟨sv, ?_, hsv.grown hg2 hns⟩, ⟨_, ?_, ((hb1.mono fun k hk => .inr hk).grown hg2 hns)⟩, ?_, ?_, hR1.nrb, h.up, h.len, fun x hx => ?_, by simpa using hl⟩, grown_same hg01 hg2⟩
  · go_simp
  · go_simp
  · have f0 := hR1.f0
    go_simp
  · go_simp
  · obtain ⟨a1, a2, a3, a4, a5, a6⟩ := hR1.seg x hx
    exact ⟨a1, a2, a3, a4, a5, a6.grown hg2 hns⟩
set_option maxRecDepth 100000 in
set_option maxHeartbeats 1000000 in
theorem rswap_long (w : World) (rb : Nat) (a : Option Addr) (len cap : Nat) (hl : decide ((len : Int) > 1024) = true) :
    Calls Try.prog 20 #[.pointer (some ⟨rb, 0, none⟩), .slice a len cap] w fun r w' => r = .returned (.int .i64 32) ∧ w = w' := by
  go_enter Try.func20, Try.ntmps20
  go_wp2
  go_ret
  exact ⟨rfl, rfl⟩
end Go.Proofs.Ytmhpbemfejkdaaa
