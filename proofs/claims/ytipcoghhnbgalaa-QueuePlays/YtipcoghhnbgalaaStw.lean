/- belfrylaw06.stands; the document's list beside a queue. -/
import Derived.Test.YtipcoghhnbgalaaRput
import Derived.Laws.StructEq
namespace Go.Proofs.Ytipcoghhnbgalaa
open Go.RowKit Go.IntWalk Go.Maps
set_option linter.unusedVariables false
set_option maxRecDepth 100000 in
theorem neq33 (n : ByteArray) (a : Int) (w : World) : (binOp .neq 33 (.agg #[.string n, .int .u64 a]) (.agg #[.string n, .int .u64 a])).run Try.prog w = .ok (.bool false) w := by
  go_simp
theorem St.okn {W w : World} {l : List Res} (h : St W w l) {qb : Nat} {L : List E} (hx : Res.q qb L ∈ l) : ∀ e ∈ L, e.n.size ≤ maxLen ∧ 0 ≤ e.at_ ∧ e.at_ < 18446744073709551616 := by
  obtain ⟨S, h1, _⟩ := h.1.mem _ hx
  have h1' : Qu S w qb L := h1
  obtain ⟨⟨bm, rv, es, hL, hH, hm, hS⟩, hs⟩ := h1'
  exact fun e he => hL.ok e ((hm e).2 he)
theorem lat_told {w : World} (n : ByteArray) (a : Int) (p : Lat w) : Calls Try.prog 16 #[.agg #[.string n, .int .u64 a]] p.W fun e w'' => e = .returned (.agg #[.string n, .int .u64 a]) ∧ ∃ p' : Lat w, w'' = p'.W :=
  (told_any p.W n a).mono fun e w'' ⟨he, hB⟩ => ⟨he, ⟨w'', grown_none p.h hB⟩, rfl⟩
theorem lat_len {W w : World} {l : List Res} (h : St W w l) {qb : Nat} {L : List E} (hx : Res.q qb L ∈ l) (p : Lat w) : Calls Try.prog 22 #[.pointer (some ⟨qb, 0, none⟩)] p.W fun e w'' => e = .returned (.int .i64 L.length) ∧ ∃ p' : Lat w, w'' = p'.W :=
  (len_m (h.grown p.h) hx).mono fun e w'' ⟨he, hB⟩ => ⟨he, p, hB⟩
set_option maxRecDepth 100000 in
set_option maxHeartbeats 4000000 in
theorem stands_any {W w : World} {l : List Res} (h : St W w l) {qb : Nat} {L : List E} (hx : Res.q qb L ∈ l) {a : Option Addr} {cap : Nat} (hl : Lc w (.slice a L.length cap) L) (nm : ByteArray) (hnm : nm.size ≤ maxLen) :
    Calls Try.prog 19 #[.pointer (some ⟨qb, 0, none⟩), .slice a L.length cap, .string nm] w fun r w' => r = .returned (.bool true) ∧ w.grownBy w' none := by
  have hsL := (h.mq hx).1
  have hlen := (h.mq hx).2.1
  have hok := h.okn hx
  obtain ⟨f, b, hfr⟩ : ∃ f b, Hid (fr L = (f, b)) := ⟨_, _, ⟨rfl⟩⟩
  have hcase : (L = [] ∧ b = false) ∨ (L[0]? = some f ∧ b = true) := by
    have := hfr.out
    cases hLL : L with
    | nil => rw [hLL] at this; simp [fr] at this; exact .inl ⟨rfl, this.2⟩
    | cons g M => rw [hLL] at this; simp [fr] at this; exact .inr ⟨by simp [this.1], this.2⟩
  replace hsL : Hid _ := ⟨hsL⟩
  replace hok : Hid _ := ⟨hok⟩
  have hne0 : (((L.length : Int)) != (L.length : Int)) = false := by simp
  go_enter Try.func19, Try.ntmps19
  go_wp2_with fail
  refine (front_e h hx hfr).mono ?_
  rintro r w1 ⟨rfl, hg1⟩
  have h1 := (h.grown hg1).box (.cells #[.string f.n, .int .u64 f.at_] 36)
  have hg2 := grown_none hg1 (World.grownBy_alloc w1 (.cells #[.string f.n, .int .u64 f.at_] 36) none)
  obtain ⟨x0, x1, _⟩ := own_b h1.b
  have hl1 := hl.grown0 hg2
  have hx1 : Res.q qb L ∈ (Res.b w1.heap.size (.cells #[.string f.n, .int .u64 f.at_] 36) :: l) := by simp [hx]
  haveI := lat_nonempty (w1.alloc (.cells #[.string f.n, .int .u64 f.at_] 36))
  have x0' := lat_cell x0
  have x1' := lat_cell x1
  have kl := fun p : Lat (w1.alloc (.cells #[.string f.n, .int .u64 f.at_] 36)) => lat_len h1 hx1 p
  have kt := fun p : Lat (w1.alloc (.cells #[.string f.n, .int .u64 f.at_] 36)) => lat_told f.n f.at_ p
  have nq := fun p : Lat (w1.alloc (.cells #[.string f.n, .int .u64 f.at_] 36)) => neq33 f.n f.at_ p.W
  replace h1 : Hid _ := ⟨h1⟩
  clear x0 x1
  rcases hcase with ⟨hL0, rfl⟩ | ⟨hL0, rfl⟩
  · have hd0 : decide ((L.length : Int) > 0) = false := by rw [hL0]; simp
    have hd1 : decide (0 < L.length) = false := by rw [hL0]; simp
    have hd2 : ¬ 0 < L.length := by rw [hL0]; simp
    replace hL0 : Hid _ := ⟨hL0⟩
    go_wp2_with fail
    refine wp_region_lat (by kernel_rfl) (by kernel_rfl) ?_
    repeat (go_big_quiet_step (fail))
    go_big_quiet_step ((go_at_call 22; exact kl _))
    repeat (go_big_quiet_step (fail))
    refine wpQuiet_nil ?_
    intro _ hw'
    obtain ⟨p, hw''⟩ := hw'
    subst hw''
    have hgp : w.grownBy p.W none := grown_none hg2 p.h
    have hlp := hl.grown0 hgp
    have hp := h.grown hgp
    obtain ⟨wp, hwp⟩ : ∃ wp, wp = p.W := ⟨_, rfl⟩
    rw [← hwp] at hgp hlp hp ⊢
    clear hwp p x0' x1' kl kt nq hd0 hd1 hd2
    go_wp2_with fail
    go_loop [9] (fun i => ∃ k : Nat, k ≤ L.length ∧ i = .int .i64 k)
      (fun i => L.length - (intOf i).toNat)
    case atStart => exact ⟨0, by omega, rfl⟩
    case round =>
      obtain ⟨k, hk, rfl⟩ := hrel
      by_cases hlt : k < L.length
      · have hd : decide ((k : Int) < L.length) = true := by simp; omega
        obtain ⟨e, he⟩ := some_at hlt
        have heL := List.mem_of_getElem? he
        obtain ⟨bl2, off2, e2, _, z0, z1⟩ := hlp.at he
        subst e2
        have hes := (hok.out e heL).1
        have hat := atN_mem hsL.out heL
        have hneq : (e.at_ != e.at_) = false := by simp
        replace he : Hid _ := ⟨he⟩
        clear heL
        go_wp2_with fail
        refine (at_e hp hx hes ⟨hat.1⟩ ⟨hat.2⟩).mono ?_
        rintro r w3 ⟨rfl, rfl⟩
        clear hat
        go_wp2_with fail
        go_round
        case rel => exact ⟨k + 1, by omega, by go_num⟩
        case measure => simp [intOf]; omega
      · have hd : decide ((k : Int) < L.length) = false := by simp; omega
        go_wp2_with fail
        refine (at_m hp hx hnm).mono ?_
        rintro r w3 ⟨rfl, rfl⟩
        go_wp2_with fail
        refine (find_any _ hlp (by omega) nm).mono ?_
        rintro r w4 ⟨i, rfl, hi, rfl⟩
        have hq : (hasN nm L == decide (i ≥ 0)) = true := by rw [hi.out]; simp
        obtain ⟨hb, hbb⟩ : ∃ hb, Hid (hasN nm L = hb) := ⟨_, ⟨rfl⟩⟩
        have hq2 : decide (i ≥ 0) = hb := by rw [hi.out, hbb.out]
        rw [hbb.out]
        clear hq hi
        cases hb
        · go_wp2
          go_ret
          exact ⟨rfl, hgp⟩
        · go_wp2
          go_ret
          exact ⟨rfl, hgp⟩
  · obtain ⟨bl, off, rfl, _, y0, y1⟩ := hl1.at hL0
    simp only [Nat.zero_mul, Nat.add_zero] at y0 y1
    have y0' := lat_cell y0
    have y1' := lat_cell y1
    have hpos : 0 < L.length := (List.getElem?_eq_some_iff.1 hL0).1
    have hd0 : decide ((L.length : Int) > 0) = true := by simp; omega
    have hd1 : decide (0 < L.length) = true := by simp; omega
    have hd3 : (0 : Int) < L.length := by omega
    replace hL0 : Hid _ := ⟨hL0⟩
    clear y0 y1
    go_wp2_with fail
    refine wp_region_lat (by kernel_rfl) (by kernel_rfl) ?_
    repeat (go_big_quiet_step (fail))
    go_big_quiet_step ((go_at_call 22; exact kl _))
    repeat (go_big_quiet_step (fail))
    go_big_quiet_step ((go_at_call 16; exact kt _))
    repeat (go_big_quiet_step (fail))
    refine wpQuiet_nil ?_
    intro _ hw'
    obtain ⟨p, hw''⟩ := hw'
    subst hw''
    have hgp : w.grownBy p.W none := grown_none hg2 p.h
    have hlp := hl.grown0 hgp
    have hp := h.grown hgp
    obtain ⟨wp, hwp⟩ : ∃ wp, wp = p.W := ⟨_, rfl⟩
    rw [← hwp] at hgp hlp hp ⊢
    clear hwp p x0' x1' y0' y1' kl kt nq
    go_wp2_with fail
    go_loop [9] (fun i => ∃ k : Nat, k ≤ L.length ∧ i = .int .i64 k)
      (fun i => L.length - (intOf i).toNat)
    case atStart => exact ⟨0, by omega, rfl⟩
    case round =>
      obtain ⟨k, hk, rfl⟩ := hrel
      by_cases hlt : k < L.length
      · have hd : decide ((k : Int) < L.length) = true := by simp; omega
        obtain ⟨e, he⟩ := some_at hlt
        have heL := List.mem_of_getElem? he
        obtain ⟨bl2, off2, e2, _, z0, z1⟩ := hlp.at he
        cases e2
        have hes := (hok.out e heL).1
        have hat := atN_mem hsL.out heL
        have hneq : (e.at_ != e.at_) = false := by simp
        replace he : Hid _ := ⟨he⟩
        clear heL
        go_wp2_with fail
        refine (at_e hp hx hes ⟨hat.1⟩ ⟨hat.2⟩).mono ?_
        rintro r w3 ⟨rfl, rfl⟩
        clear hat
        go_wp2_with fail
        go_round
        case rel => exact ⟨k + 1, by omega, by go_num⟩
        case measure => simp [intOf]; omega
      · have hd : decide ((k : Int) < L.length) = false := by simp; omega
        go_wp2_with fail
        refine (at_m hp hx hnm).mono ?_
        rintro r w3 ⟨rfl, rfl⟩
        go_wp2_with fail
        refine (find_any _ hlp (by omega) nm).mono ?_
        rintro r w4 ⟨i, rfl, hi, rfl⟩
        have hq : (hasN nm L == decide (i ≥ 0)) = true := by rw [hi.out]; simp
        obtain ⟨hb, hbb⟩ : ∃ hb, Hid (hasN nm L = hb) := ⟨_, ⟨rfl⟩⟩
        have hq2 : decide (i ≥ 0) = hb := by rw [hi.out, hbb.out]
        rw [hbb.out]
        clear hq hi
        cases hb
        · go_wp2
          go_ret
          exact ⟨rfl, hgp⟩
        · go_wp2
          go_ret
          exact ⟨rfl, hgp⟩
end Go.Proofs.Ytipcoghhnbgalaa
