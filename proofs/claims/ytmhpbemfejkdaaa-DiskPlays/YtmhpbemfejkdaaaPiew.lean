/- The walk of the law DiskPieces. -/
import Derived.Test.YtmhpbemfejkdaaaLater
import Derived.Test.YtmhpbemfejkdaaaActs
import Derived.Test.YtmhpbemfejkdaaaNilw
namespace Go.Proofs.Ytmhpbemfejkdaaa
open Go.RowKit Go.IntWalk Go.Maps Go.Sort
set_option linter.unusedVariables false

theorem str_size (l : List Int) : (strOfNums l).size = l.length := by simp [strOfNums, ByteArray.size]
theorem str_app (l m : List Int) : strOfNums l ++ strOfNums m = strOfNums (l ++ m) := by
  apply ByteArray.ext
  simp [strOfNums]
theorem str_take (l : List Int) (k : Nat) (hk : k ≤ l.length) : (strOfNums l).extract 0 k = strOfNums (l.take k) := by
  apply ByteArray.ext
  simp [strOfNums, ByteArray.extract, ByteArray.copySlice]
set_option maxRecDepth 100000 in
set_option maxHeartbeats 1000000 in
/-- belfryref03.Pick. -/
theorem pick_any (k m c : Int) (hc : Hid (c = cr k (m - 1))) (hk0 : -9223372036854775808 ≤ k) (hk1 : k < 9223372036854775808) (hm0 : 1 ≤ m) (hm1 : m ≤ 100000) (w : World) :
    Calls Try.prog 28 #[.int .i64 k, .int .i64 m] w fun e w' => e = .returned (.int .i64 c) ∧ w = w' := by
  have hne : ¬ m = 0 := by omega
  have hz : (m == 0) = false := by simp; omega
  have hm : m - 1 + 1 = m := by omega
  have hlo := cr_lo k (m - 1) (by omega)
  have hhi := cr_hi k (m - 1) (by omega)
  have hwc : IntKind.i64.wrap c = c := by rw [hc.out, IntKind.wrap_i64]; omega
  by_cases hk : k < 0
  · have hd : decide (k < 0) = true := by simpa using hk
    have hw1 : IntKind.i64.wrap (k + 1) = k + 1 := by rw [IntKind.wrap_i64]; omega
    have hw2 : IntKind.i64.wrap (-(k + 1)) = -(k + 1) := by rw [IntKind.wrap_i64]; omega
    have hr : (-(k + 1)).tmod m = c := by
      rw [hc.out, cr, if_pos hk, hm]
      exact Int.tmod_eq_emod_of_nonneg (by omega)
    clear hlo hhi hk
    go_enter Try.func28, Try.ntmps28
    go_wp2
    go_ret
    exact ⟨rfl, rfl⟩
  · have hd : decide (k < 0) = false := by simpa using hk
    have hr : k.tmod m = c := by
      rw [hc.out, cr, if_neg hk, hm]
      exact Int.tmod_eq_emod_of_nonneg (by omega)
    clear hlo hhi hk
    go_enter Try.func28, Try.ntmps28
    go_wp2
    go_ret
    exact ⟨rfl, rfl⟩

theorem Many.grown' {α : Type} {k : Nat} {cs : α → List Value} {ok : World → α → Prop} (hok : ∀ {W W' : World}, W.grownBy W' none → ∀ x, ok W x → ok W' x) {W W' : World} {v : Value} {xs : List α} (h : Many k cs ok W v xs) (hg : W.grownBy W' none) : Many k cs ok W' v xs := h.grown0 hg (hok hg)
/-- What the disk holds behind j pieces. -/
def Held (seg : Int) (j : Nat) (acc : List Int) (l : List Sg) : Prop := (j = 0 ∧ acc = [] ∧ l = []) ∨ (0 < j ∧ ∃ v, l = [⟨seg, v, acc, 0⟩])
set_option maxRecDepth 100000 in
set_option maxHeartbeats 4000000 in
theorem pieces_walk (seg at_ : Int) (hs0 : -9223372036854775808 ≤ seg) (hs1 : seg < 9223372036854775808) (ha0 : -9223372036854775808 ≤ at_) (ha1 : at_ < 9223372036854775808) (a : Option Addr) (cap : Nat) (xs : List Bs) (W : World) (h : Bss W (.slice a xs.length cap) xs) :
    Calls Try.prog 7 #[.int .i64 seg, .slice a xs.length cap, .int .i64 at_] W fun e w' => e = .returned (.bool true) ∧ Below W.heap.size W w' := by
  by_cases hneg : seg < 0
  · have hd : decide (seg < 0) = true := by simpa using hneg
    go_enter Try.func7, Try.ntmps7
    go_wp2_with fail
    refine (new_any W).mono ?_
    rintro r w1 ⟨sb, bm, rfl, hsb, hbm, hd1, hg1⟩
    go_wp2
    go_ret
    exact ⟨rfl, grown_below hg1⟩
  have hd : decide (seg < 0) = false := by simpa using hneg
  by_cases hlen : xs.length > 80
  · have hd2 : decide ((xs.length : Int) > 80) = true := by simp; omega
    go_enter Try.func7, Try.ntmps7
    go_wp2_with fail
    refine (new_any W).mono ?_
    rintro r w1 ⟨sb, bm, rfl, hsb, hbm, hd1, hg1⟩
    go_wp2
    go_ret
    exact ⟨rfl, grown_below hg1⟩
  have hd2 : decide ((xs.length : Int) > 80) = false := by simp; omega
  go_enter Try.func7, Try.ntmps7
  go_wp2_with fail
  refine (new_any W).mono ?_
  rintro r w1 ⟨sb, bm, rfl, hsb, hbm, hd1, hg1⟩
  go_wp2_with fail
  go_loopw [8, 9] (fun s i wr => ∃ (j : Nat) (acc : List Int) (A : ByteArray) (N : Nat → Prop) (l : List Sg), j ≤ xs.length ∧ i = .int .i64 j ∧ s = .string A ∧ Hid (A = strOfNums acc) ∧ (∀ z ∈ acc, 0 ≤ z ∧ z < 256) ∧ Dsk wr sb bm N l [] ∧ Held seg j acc l ∧ W.grownBy wr none)
    (fun _ i _ => xs.length - (intOf i).toNat)
  case atStart => exact ⟨0, [], _, _, [], by omega, rfl, rfl, rfl, by simp, hd1, .inl ⟨rfl, rfl, rfl⟩, hg1⟩
  case round =>
    obtain ⟨j, acc, A, N, l, hj, rfl, rfl, hA, hacc, hdk, hheld, hgw⟩ := hrel
    by_cases hjl : j < xs.length
    · have hdj : decide ((j : Int) < (xs.length : Int)) = true := by simp; omega
      obtain ⟨x, hx⟩ : ∃ x, xs[j]? = some x := ⟨_, List.getElem?_eq_getElem hjl⟩
      obtain ⟨b, off, rfl, hbl, hxo0, hxc⟩ := h.at hx
      have hcW : W.cell? ⟨b, off + j, none⟩ = some (.slice x.a x.b.length x.c) := by
        have := hxc 0 _ rfl
        simpa using this
      have hc0 := grown_cell hgw hcW
      have hxo := Bs.ok_grown hgw x hxo0
      by_cases hlong : x.b.length > 300
      · have hd3 : decide ((x.b.length : Int) > 300) = true := by simp; omega
        go_wp2_with fail
        refine (alive_any wr).mono ?_
        rintro r w2 ⟨rfl, hg2⟩
        go_wp2
        go_ret
        exact ⟨rfl, grown_below (grown_none hgw hg2)⟩
      have hd3 : decide ((x.b.length : Int) > 300) = false := by simp; omega
      have hAs : A.size = acc.length := by rw [hA.out, str_size]
      have hal : acc.length ≤ 1024 := by
        rcases hheld with ⟨_, rfl, _⟩ | ⟨_, v, rfl⟩
        · simp
        · exact (hdk.seg _ (List.mem_singleton.2 rfl)).2.2.1
      have hwr : IntKind.i64.wrap ((acc.length : Int) + x.b.length) = acc.length + x.b.length := by rw [IntKind.wrap_i64]; omega
      have hfit : fits seg x.b.length l = decide (acc.length + x.b.length ≤ 1024) := by
        have h0 : 0 ≤ seg := by omega
        rcases hheld with ⟨_, rfl, rfl⟩ | ⟨_, v, rfl⟩
        · simp [fits, orS, getS, h0]
        · simp [fits, orS, getS, h0]
      go_wp2_with fail
      refine (append_any wr hdk seg hs0 hs1 _ x.b hxo).mono ?_
      rintro r w2 (⟨hf, rfl, ⟨v2, hd4⟩, hg2⟩ | ⟨hf, rfl, hg2⟩)
      · have hfl : acc.length + x.b.length ≤ 1024 := by rw [hfit] at hf; simpa using hf
        have hd5 : decide ((acc.length : Int) + x.b.length ≤ 1024) = true := by simp; omega
        have hgw2 := grown_new hgw hg2 hbm
        have hc1 := grown_cell hgw2 hcW
        have hk := run_conv (Bs.ok_grown hgw2 x hxo0)
        have hcat : ¬ 9223372036854775807 < acc.length + (strOfNums x.b).size := by rw [str_size]; omega
        go_wp2_with fail
        go_roundw
        case rel =>
          refine ⟨j + 1, acc ++ x.b, _, _, _, by omega, by go_num, rfl, ?_, ?_, hd4, ?_, hgw2⟩
          · show A ++ strOfNums x.b = _
            rw [hA.out, str_app]
          · intro z hz
            exact (List.mem_append.1 hz).elim (hacc z) (hxo0.2 z)
          · refine .inr ⟨by omega, v2, ?_⟩
            rcases hheld with ⟨_, rfl, rfl⟩ | ⟨_, v, rfl⟩
            · rfl
            · simp [orS, getS, putS]
        case measure => simp [intOf]; omega
      · have hfl : 1024 < acc.length + x.b.length := by rw [hfit] at hf; simpa using hf
        have hd5 : decide ((acc.length : Int) + x.b.length ≤ 1024) = false := by simp; omega
        have hgw2 := grown_none hgw hg2
        have hc1 := grown_cell hgw2 hcW
        go_wp2_with fail
        go_roundw
        case rel =>
          refine ⟨j + 1, acc, A, N, l, by omega, by go_num, rfl, hA, hacc, hdk.grown0 hg2, ?_, hgw2⟩
          rcases hheld with ⟨_, rfl, _⟩ | ⟨_, v, rfl⟩
          · simp at hfl
            omega
          · exact .inr ⟨by omega, v, rfl⟩
        case measure => simp [intOf]; omega
    · have hdj : decide ((j : Int) < (xs.length : Int)) = false := by simp; omega
      obtain rfl : j = xs.length := by omega
      rcases hheld with ⟨h0, rfl, rfl⟩ | ⟨hp, v, rfl⟩
      · have hz : ((xs.length : Int) == 0) = true := by simp [h0]
        go_wp2_with fail
        refine (read_none wr hdk hs0 hs1 rfl).mono ?_
        rintro r w2 ⟨v2, rfl, hb2, hg2⟩
        go_wp2_with fail
        refine (alive_any w2).mono ?_
        rintro r w3 ⟨rfl, hg3⟩
        go_wp2
        go_ret
        exact ⟨rfl, grown_below (grown_none (grown_none hgw hg2) hg3)⟩
      · have hz : ((xs.length : Int) == 0) = false := by
          simp
          rintro rfl
          simp at hp
        have hal : acc.length ≤ 1024 := (hdk.seg _ (List.mem_singleton.2 rfl)).2.2.1
        have hAs : A.size = acc.length := by rw [hA.out, str_size]
        have hwr : IntKind.i64.wrap ((acc.length : Int) + 1) = acc.length + 1 := by rw [IntKind.wrap_i64]; omega
        go_wp2_with fail
        refine (read_some wr hdk (getS_one _ _ _ _)).mono ?_
        rintro r w2 ⟨v2, rfl, hb2, hg2⟩
        dsimp only at hb2
        obtain ⟨a2, c2, rfl⟩ := hb2.1.shape
        obtain ⟨k, hk⟩ : ∃ k, Hid (k = cr at_ ((acc.length : Int) + 1 - 1)) := ⟨_, rfl⟩
        go_wp2_with fail
        refine (pick_any at_ _ k hk ha0 ha1 (by omega) (by omega) w2).mono ?_
        rintro r w3 ⟨rfl, rfl⟩
        have hk0 : 0 ≤ k := by rw [hk.out]; exact cr_lo _ _ (by omega)
        have hk1 : k ≤ acc.length := by rw [hk.out]; have := cr_hi at_ ((acc.length : Int) + 1 - 1) (by omega); omega
        go_wp2_with fail
        refine (cut_ok w2 (hdk.grown0 hg2) (getS_one _ _ _ _) k hk0 hk1).mono ?_
        rintro r w3 ⟨rfl, ⟨v3, hd3⟩, hg3⟩
        rw [putS_one] at hd3
        dsimp only at hd3
        have hgw3 := grown_new (grown_none hgw hg2) hg3 hbm
        go_wp2_with fail
        refine (read_some w3 hd3 (getS_one _ _ _ _)).mono ?_
        rintro r w4 ⟨v4, rfl, hb4, hg4⟩
        dsimp only at hb4
        obtain ⟨a4, c4, hv4⟩ := hb4.1.shape
        subst hv4
        rw [show (acc.take k.toNat).length = k.toNat from by rw [List.length_take]; omega] at hb4
        go_wp2_with fail
        haveI := lat_nonempty w4
        have hb24 := (hb2.1.grown hg3 fun b off len cap e hn e2 => by
          have h1 := hb2.2 b off len cap e hn
          have h2 := hdk.bml
          have e3 : b = bm := by simpa using e2
          omega).grown0 hg4
        have k1 := lat_conv (A := A) hb24 hA
        have k2 := lat_conv (A := A.extract 0 k.toNat) hb4.1 (by
          show A.extract 0 k.toNat = _
          rw [hA.out, str_take _ _ (by omega)])
        have k3 := fun p => lat_safe (hd3.grown0 hg4) (getS_one seg v3 (acc.take k.toNat) k) p
        dsimp only at k3
        refine wp_region_lat (by kernel_rfl) (by kernel_rfl) ?_
        go_big_quiet_step ((go_at_call 24; exact lat_alive _))
        repeat (go_big_quiet_step (fail))
        go_big_quiet_step ((go_at_call 26; exact k3 _))
        repeat (go_big_quiet_step (fail))
        refine wpQuiet_nil ?_
        intro _ hw'
        obtain ⟨p, hw''⟩ := hw'
        subst hw''
        go_wp2
        go_ret
        exact ⟨rfl, grown_below (grown_none (grown_none hgw3 hg4) p.h)⟩
theorem pieces_any (seg at_ : Int) (hs : (Lit.int .i64 seg).wf = true) (ha : (Lit.int .i64 at_).wf = true) (a : Option Addr) (len cap : Nat) (xs : List Bs) (W : World) (h : Bss W (.slice a len cap) xs) :
    Calls Try.prog 7 #[.int .i64 seg, .slice a len cap, .int .i64 at_] W fun e w' => e = .returned (.bool true) ∧ Below W.heap.size W w' := by
  obtain ⟨a', cap', e⟩ := h.shape
  cases e
  exact pieces_walk seg at_ (i64_bd hs).1 (i64_bd hs).2 (i64_bd ha).1 (i64_bd ha).2 a cap xs W h
end Go.Proofs.Ytmhpbemfejkdaaa
