/- belfrylaw07.alive, later and Act.tick, whatever lies in memory. -/
import Derived.Test.YtlljfgpmjpmoiaaMem
namespace Go.Proofs.Ytlljfgpmjpmoiaa
open Go.RowKit Go.IntWalk Go.Maps Go.Shelf
set_option linter.unusedVariables false
def nA : ByteArray := ⟨#[97]⟩
def nB : ByteArray := ⟨#[98]⟩
def nC : ByteArray := ⟨#[99]⟩
theorem nAB : nA ≠ nB := by intro h; have := congrArg ByteArray.data h; revert this; decide
theorem s1 : Srt [⟨nA, 7⟩] := ⟨by simp, by simp⟩
theorem s2 : Srt [⟨nA, 7⟩, ⟨nB, 300⟩] := ⟨by simp [lt], by simp [nAB, Ne.symm nAB]⟩
theorem p1 : putA 5 ⟨nA, 7⟩ [] = [⟨nA, 7⟩] := by
  have : putE ⟨nA, 7⟩ [] = [⟨nA, 7⟩] := (Srt.nil.put _).eq s1 fun x => by simp [mem_putE]
  simpa [putA] using this
theorem p2 : putA 5 ⟨nB, 300⟩ [⟨nA, 7⟩] = [⟨nA, 7⟩, ⟨nB, 300⟩] := by
  have : putE ⟨nB, 300⟩ [⟨nA, 7⟩] = [⟨nA, 7⟩, ⟨nB, 300⟩] := (s1.put _).eq s2 fun x => by
    simp only [mem_putE, List.mem_cons, List.not_mem_nil, or_false]
    constructor
    · rintro (h | ⟨h, _⟩) <;> simp [h]
    · rintro (h | h)
      · subst h; exact .inr ⟨rfl, nAB⟩
      · exact .inl h
  simpa [putA] using this
theorem p3 : putA 5 ⟨nC, 5⟩ [⟨nA, 7⟩, ⟨nB, 300⟩] = [⟨nA, 7⟩, ⟨nB, 300⟩] := by simp [putA]
theorem pA : pE 5 ⟨nA, 7⟩ = 7 := by decide
theorem pB : pE 5 ⟨nB, 300⟩ = 33 := by decide
theorem a33 : atP 5 [⟨nA, 7⟩, ⟨nB, 300⟩] (16 * 2 + 1) = [⟨nB, 300⟩] := by simp [atP, pA, pB]
theorem d7 : due 7 [⟨nA, 7⟩, ⟨nB, 300⟩] = [⟨nA, 7⟩] := by simp [due]
theorem r7 : rst 7 [⟨nA, 7⟩, ⟨nB, 300⟩] = [⟨nB, 300⟩] := by simp [rst]
theorem small (n : ByteArray) (h : n.size ≤ 40) : n.size ≤ maxLen := by unfold maxLen; omega
set_option maxRecDepth 100000 in
set_option maxHeartbeats 1000000 in
theorem alive_s {W w : World} {l : List Res} (h : St W w l) : Calls Try.prog 23 #[] w fun r w' => r = .returned (.bool true) ∧ St W w' l := by
  have hA : nA.size ≤ maxLen := small _ (by decide)
  have hB : nB.size ≤ maxLen := small _ (by decide)
  have hC : nC.size ≤ maxLen := small _ (by decide)
  go_enter Try.func23, Try.ntmps23
  go_wp2_with fail
  refine (new_s h 5 (by omega)).mono ?_
  rintro r w1 ⟨qb, rfl, hs⟩
  go_wp2_with fail
  refine (put_e hs nA 7 hA (by omega) (by simp) ⟨rfl⟩ ⟨p1⟩).mono ?_
  rintro r w2 ⟨rfl, hs⟩
  go_wp2_with fail
  refine (put_e hs nB 300 hB (by omega) (by simp) ⟨rfl⟩ ⟨p2⟩).mono ?_
  rintro r w3 ⟨rfl, hs⟩
  go_wp2_with fail
  refine (put_e hs nC 5 hC (by omega) (by simp) ⟨rfl⟩ ⟨p3⟩).mono ?_
  rintro r w4 ⟨rfl, hs⟩
  go_wp2_with fail
  refine (slot_m hs (List.mem_cons_self) (k := 2) (q := 1) (by omega) (by omega) ⟨a33⟩).mono ?_
  rintro r w5 ⟨a5, c5, rfl, hs, hg5⟩
  clear hg5
  go_wp2_with fail
  refine (adv_e (now' := 7) hs.swap 7 (by omega) ⟨d7⟩ ⟨r7⟩ ⟨by simp⟩).mono ?_
  rintro r w6 ⟨a6, c6, rfl, hs6⟩
  clear hs
  have hs := hs6
  clear hs6
  have hrB : Rw 52 w6 (.slice a5 1 c5) [⟨nB, 300⟩] := hs.mr (by simp)
  have hrA : Rw 52 w6 (.slice a6 1 c6) [⟨nA, 7⟩] := hs.mr (by simp)
  obtain ⟨g, rfl, -, -, k1, k2, -⟩ := hrB.at (i := 0) rfl
  obtain ⟨g', rfl, -, -, k3, k4, -⟩ := hrA.at (i := 0) rfl
  simp only [Nat.zero_mul, Nat.zero_add] at k1 k2 k3 k4
  replace hrB : Hid _ := ⟨hrB⟩
  replace hrA : Hid _ := ⟨hrA⟩
  change _ = some (Value.string ⟨#[98]⟩) at k1
  change _ = some (Value.string ⟨#[97]⟩) at k3
  clear hrA hrB k2 k4
  go_wp2_with fail
  refine (clock_m hs List.mem_cons_self).mono ?_
  rintro r w7 ⟨rfl, rfl⟩
  go_wp2_with fail
  refine (len_m hs List.mem_cons_self).mono ?_
  rintro r w8 ⟨rfl, rfl⟩
  go_wp2
  go_ret
  exact ⟨rfl, hs.drop.drop.drop⟩
/-- So many ticks behind one, as far as there are ticks. -/
def ltr (n b : Int) : Int := if 18446744073709551615 - n < b then 18446744073709551615 else n + b
theorem ltr_bd {n b : Int} (hn : 0 ≤ n ∧ n < 18446744073709551616) (hb : 0 ≤ b ∧ b < 18446744073709551616) : 0 ≤ ltr n b ∧ ltr n b < 18446744073709551616 ∧ n ≤ ltr n b := by
  unfold ltr
  split <;> omega
set_option maxRecDepth 100000 in
set_option maxHeartbeats 1000000 in
theorem later_any (w : World) (n b : Int) (hn : 0 ≤ n ∧ n < 18446744073709551616) (hb : 0 ≤ b ∧ b < 18446744073709551616) {t : Int} (ht : Hid (ltr n b = t)) : Calls Try.prog 24 #[.int .u64 n, .int .u64 b] w fun r w' => r = .returned (.int .u64 t) ∧ w' = w := by
  by_cases h : 18446744073709551615 - n < b
  · have hd : decide (b > 18446744073709551615 - n) = true := by simpa using h
    have hd2 : decide (18446744073709551615 - n < b) = true := by simpa using h
    have ht2 : t = 18446744073709551615 := by rw [← ht.out]; simp [ltr, h]
    subst ht2
    go_enter Try.func24, Try.ntmps24
    go_wp2
    go_ret
    exact ⟨rfl, rfl⟩
  · have hd : decide (b > 18446744073709551615 - n) = false := by simpa using h
    have hd2 : decide (18446744073709551615 - n < b) = false := by simpa using h
    have ht2 : t = n + b := by rw [← ht.out]; simp [ltr, h]
    subst ht2
    go_enter Try.func24, Try.ntmps24
    go_wp2
    go_ret
    exact ⟨rfl, rfl⟩
/-- An act: its kind, name, deadline and by how much. -/
structure Ac where
  kd : Int
  nm : ByteArray
  at_ : Int
  by_ : Int
def Ac.ok (x : Ac) : Prop := (-9223372036854775808 ≤ x.kd ∧ x.kd < 9223372036854775808) ∧ x.nm.size ≤ maxLen ∧ (0 ≤ x.at_ ∧ x.at_ < 18446744073709551616) ∧ 0 ≤ x.by_ ∧ x.by_ < 18446744073709551616
/-- The tick that an act speaks of. -/
def Ac.tk (x : Ac) (now : Int) (L : List E) : Int := if x.kd = 2 ∨ x.kd = 5 then ltr now x.by_ else if x.kd = 6 then (if soonB L then soonT L else now) else x.at_
theorem Ac.tk_bd {x : Ac} (hx : x.ok) {now : Int} {L : List E} (hn : 0 ≤ now ∧ now < 18446744073709551616) (hok : ∀ e ∈ L, e.ok) : 0 ≤ x.tk now L ∧ x.tk now L < 18446744073709551616 := by
  unfold Ac.tk
  split
  · have := ltr_bd hn hx.2.2.2
    omega
  · split
    · cases L with
      | nil => simpa [soonB] using hn
      | cons f L =>
        have := hok f (by simp)
        exact ⟨this.2.1, this.2.2⟩
    · exact hx.2.2.1
theorem own_4 {w : World} {k : Nat} {a b c d : Value} {t : TypeId} (hb : w.heap[k]? = some (.cells #[a, b, c, d] t (0, 0))) : w.cell? ⟨k, 0, none⟩ = some a ∧ w.cell? ⟨k, 1, none⟩ = some b ∧ w.cell? ⟨k, 2, none⟩ = some c ∧ w.cell? ⟨k, 3, none⟩ = some d :=
  ⟨by simp [World.cell?, hb], by simp [World.cell?, hb], by simp [World.cell?, hb], by simp [World.cell?, hb]⟩
set_option maxRecDepth 100000 in
set_option maxHeartbeats 2000000 in
/-- Act.tick. -/
theorem tick_m {W w : World} {wb : Nat} {now : Int} {L : List E} {l : List Res} (h : St W w l) (hx : Res.q wb now L ∈ l) (x : Ac) (hxo : x.ok) {t : Int} (ht : Hid (x.tk now L = t)) :
    Calls Try.prog 10 #[.agg #[.int .i64 x.kd, .string x.nm, .int .u64 x.at_, .int .u64 x.by_], .pointer (some ⟨wb, 0, none⟩)] w fun r w' => r = .returned (.int .u64 t) ∧ w.grownBy w' none := by
  obtain ⟨_, _, _, _, hnw⟩ := h.mq hx
  have hg1 := World.grownBy_alloc w (.cells #[.int .i64 x.kd, .string x.nm, .int .u64 x.at_, .int .u64 x.by_] 31) none
  have h1 := h.grown hg1
  by_cases h25 : x.kd = 2 ∨ x.kd = 5
  · have ht2 : Hid (ltr now x.by_ = t) := ⟨by rw [← ht.out]; simp [Ac.tk, h25]⟩
    have hc1 := clock_m (h1.grown (grown_drew _)) hx
    have hc2 := fun w => later_any w now x.by_ hnw hxo.2.2.2 ht2
    have q : (w.alloc (.cells #[.int .i64 x.kd, .string x.nm, .int .u64 x.at_, .int .u64 x.by_] 31)).cell? ⟨w.heap.size, 3, none⟩ = some (.int .u64 x.by_) := by simp
    have key : ∀ (b2 b5 : Bool), (x.kd == 2) = b2 → (x.kd == 5) = b5 → (b2 || b5) = true → Calls Try.prog 10 #[.agg #[.int .i64 x.kd, .string x.nm, .int .u64 x.at_, .int .u64 x.by_], .pointer (some ⟨wb, 0, none⟩)] w fun r w' => r = .returned (.int .u64 t) ∧ w.grownBy w' none := by
      intro b2 b5 e2 e5 e25
      clear h25
      cases b2 with
      | true =>
        go_enter Try.func10, Try.ntmps10
        go_wp2_with fail
        go_region_held3 (fun w' => w'.cell? ⟨w.heap.size, 3, none⟩ = some (.int .u64 x.by_))
          (first
            | go_keep
            | exact q)
          (first
            | (go_at_call 20
               refine hc1.mono ?_
               rintro r w2 ⟨rfl, rfl⟩)
            | (go_at_call 24
               refine (hc2 _).mono ?_
               rintro r w2 ⟨rfl, rfl⟩))
        go_wp2
        go_ret
        exact ⟨rfl, grown_none hg1 (grown_drew _)⟩
      | false =>
        obtain rfl : b5 = true := by simpa using e25
        go_enter Try.func10, Try.ntmps10
        go_wp2_with fail
        go_region_held3 (fun w' => w'.cell? ⟨w.heap.size, 3, none⟩ = some (.int .u64 x.by_))
          (first
            | go_keep
            | exact q)
          (first
            | (go_at_call 20
               refine hc1.mono ?_
               rintro r w2 ⟨rfl, rfl⟩)
            | (go_at_call 24
               refine (hc2 _).mono ?_
               rintro r w2 ⟨rfl, rfl⟩))
        go_wp2
        go_ret
        exact ⟨rfl, grown_none hg1 (grown_drew _)⟩
    refine key _ _ rfl rfl ?_
    rcases h25 with e | e <;> simp [e]
  · have e2 : (x.kd == 2) = false := by simp; omega
    have e5 : (x.kd == 5) = false := by simp; omega
    by_cases h6 : x.kd = 6
    · have e6 : (x.kd == 6) = true := by simp [h6]
      have ht2 : (if soonB L then soonT L else now) = t := by rw [← ht.out]; simp [Ac.tk, h6]
      obtain ⟨sb, hsb⟩ : ∃ sb, Hid (soonB L = sb) := ⟨_, ⟨rfl⟩⟩
      obtain ⟨st, hst⟩ : ∃ st, Hid (soonT L = st) := ⟨_, ⟨rfl⟩⟩
      rw [hsb.out, hst.out] at ht2
      have hc := soon_m h1 hx hst hsb
      clear h25 h6 ht
      cases sb with
      | true =>
        obtain rfl : st = t := by simpa using ht2
        go_enter Try.func10, Try.ntmps10
        go_wp2_with fail
        refine hc.mono ?_
        rintro r w2 ⟨rfl, hg2⟩
        go_wp2
        go_ret
        exact ⟨rfl, grown_none hg1 hg2⟩
      | false =>
        obtain rfl : now = t := by simpa using ht2
        go_enter Try.func10, Try.ntmps10
        go_wp2_with fail
        refine hc.mono ?_
        rintro r w2 ⟨rfl, hg2⟩
        go_wp2_with fail
        refine (clock_m (h1.grown hg2) hx).mono ?_
        rintro r w3 ⟨rfl, rfl⟩
        go_wp2
        go_ret
        exact ⟨rfl, grown_none hg1 hg2⟩
    · have e6 : (x.kd == 6) = false := by simp; omega
      obtain rfl : x.at_ = t := by rw [← ht.out]; simp [Ac.tk, h25, h6]
      clear h25 h6
      go_enter Try.func10, Try.ntmps10
      go_wp2
      go_ret
      exact ⟨rfl, hg1⟩
end Go.Proofs.Ytlljfgpmjpmoiaa
