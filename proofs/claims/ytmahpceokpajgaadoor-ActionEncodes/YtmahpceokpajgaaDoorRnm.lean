/- The document's numbers: belfryref09.Number, Sum. -/
import Derived.Test.YtmahpceokpajgaaDoorTxt
namespace Go.Proofs.YtmahpceokpajgaaDoor
open Go.RowKit Go.IntWalk Go.Maps Go.Shelf
set_option linter.unusedVariables false
set_option linter.unusedSimpArgs false
/-- What figures say. -/
def vD (l : K) : Nat := l.foldl (fun a c => 10 * a + (c.toNat - 48)) 0
theorem vD_snoc (l : K) (c : UInt8) : vD (l ++ [c]) = 10 * vD l + (c.toNat - 48) := by simp [vD]
theorem dig_nat {d : Nat} (h : d < 10) : (UInt8.ofNat (48 + d)).toNat = 48 + d := UInt8.toNat_ofNat_of_lt' (by show 48 + d < 256; omega)
theorem vD_dec (u : Nat) : vD (Lib.decDigits u) = u := by
  induction u using Nat.strongRecOn with
  | ind u ih =>
    rw [Lib.decDigits]
    split
    · rename_i h
      have := dig_nat h
      simp [vD]
      omega
    · rename_i h
      rw [vD_snoc, ih _ (by omega), dig_nat (Nat.mod_lt _ (by decide))]
      omega
theorem dec_len : ∀ (k u : Nat), u < 10 ^ (k + 1) → (Lib.decDigits u).length ≤ k + 1
  | 0, u, h => by rw [Lib.decDigits, dif_pos (by simpa using h)]; simp
  | k + 1, u, h => by
    rw [Lib.decDigits]
    split
    · simp
    · have h2 : u / 10 < 10 ^ (k + 1) := by rw [Nat.div_lt_iff_lt_mul (by decide)]; rw [Nat.pow_succ] at h; exact h
      have := dec_len k (u / 10) h2
      simp
      omega
theorem vD_lt (l : K) (h : ∀ c ∈ l, 48 ≤ c.toNat ∧ c.toNat ≤ 57) : vD l < 10 ^ l.length := by
  have key : ∀ (n : Nat) (l : K), l.length = n → (∀ c ∈ l, 48 ≤ c.toNat ∧ c.toNat ≤ 57) → vD l < 10 ^ n := by
    intro n
    induction n with
    | zero => intro l hl _; rw [List.eq_nil_of_length_eq_zero hl]; decide
    | succ n ih =>
      intro l hl hc
      have hne : l ≠ [] := by rintro rfl; simp at hl
      rw [← List.dropLast_concat_getLast hne, vD_snoc, Nat.pow_succ]
      have h1 := ih l.dropLast (by simp [hl]) fun c hc2 => hc c (List.dropLast_subset _ hc2)
      have h2 := hc _ (List.getLast_mem hne)
      omega
  exact key _ l rfl h
/-- A text without its sign. -/
def uns (s : K) : K := if s.head? = some 45 then s.tail else s
theorem num_some {s : K} {m : Int} (h : numOf s = some m) : uns s = Lib.decDigits m.natAbs ∧ (m < 0 ↔ s.head? = some 45) ∧ In64 m := by
  obtain ⟨rfl, hm⟩ := numOf_some h
  unfold Lib.itoa
  by_cases h0 : m < 0
  · rw [if_pos h0]
    exact ⟨by simp [uns], by simp [h0], hm⟩
  · rw [if_neg h0]
    have hh : (Lib.decDigits m.toNat).head? ≠ some 45 := fun e => by
      have := dec_dig m.toNat 45 (List.mem_of_head? e)
      simp at this
    refine ⟨?_, ⟨fun h => absurd h h0, fun h => absurd h hh⟩, hm⟩
    rw [uns, if_neg hh, show m.natAbs = m.toNat by omega]
theorem num_len {s : K} {m : Int} (h : numOf s = some m) : 1 ≤ (uns s).length ∧ (uns s).length ≤ 19 ∧ (∀ c ∈ uns s, 48 ≤ c.toNat ∧ c.toNat ≤ 57) ∧ vD (uns s) = m.natAbs := by
  obtain ⟨e, _, hm⟩ := num_some h
  rw [e]
  refine ⟨List.length_pos_iff.2 (decDigits_ne _), dec_len 18 _ ?_, dec_dig _, vD_dec _⟩
  obtain ⟨a, b⟩ := hm
  simp only [Nat.reducePow, Nat.reduceAdd]
  omega
/-- What Number tells: the number, and whether the text is that number's. -/
def NumE (s : K) (e : Ending) : Prop := ∃ (x : Int) (b : Bool), e = .returned (.tuple #[.int .i64 x, .bool b]) ∧ In64 x ∧ (∀ m, numOf s = some m → x = m ∧ b = true) ∧ (numOf s = none → b = false)
theorem NumE.no {s : K} (h : numOf s = none) : NumE s (.returned (.tuple #[.int .i64 0, .bool false])) := ⟨0, false, rfl, by decide, fun m hm => (by rw [h] at hm; cases hm), fun _ => rfl⟩
theorem num_none {s : K} (h : ∀ m, numOf s ≠ some m) : numOf s = none := by
  cases e : numOf s with
  | none => rfl
  | some m => exact absurd e (h m)
theorem num_end {s : K} {x : Int} (hx : In64 x) (h : ∀ m, numOf s = some m → x = m) : NumE s (.returned (.tuple #[.int .i64 x, .bool ((bt (Lib.itoa x)).toList == (bt s).toList)])) := by
  refine ⟨x, _, rfl, hx, fun m hm => ⟨h m hm, ?_⟩, fun hn => ?_⟩
  · obtain rfl := h m hm
    rw [bt_toList, bt_toList, (numOf_some hm).1]
    simp
  · rw [bt_toList, bt_toList]
    refine beq_eq_false_iff_ne.2 fun e => ?_
    have := numOf_itoa hx
    rw [e, hn] at this
    cases this
theorem vD_next {l : K} {i : Nat} {c : UInt8} (h : l[i]? = some c) : vD (l.take (i + 1)) = 10 * vD (l.take i) + (c.toNat - 48) := by
  rw [List.take_add_one, h]
  exact vD_snoc _ _
set_option maxRecDepth 100000 in
set_option maxHeartbeats 4000000 in
theorem rnum_neg (w : World) (r : K) (hr : r.length ≤ 1000000) {s : K} (hs : Hid (s = 45 :: r)) : Calls Tryd.prog 30 #[.string (bt (45 :: r))] w fun e w' => NumE s e ∧ w' = w := by
  have hu : Hid (uns s = r) := ⟨by rw [hs.out]; rfl⟩
  have hsz : (bt (45 :: r)).size = r.length + 1 := by rw [bt_size]; rfl
  have hg0 := get_bt (k := 45 :: r) (i := 0) (c := 45) rfl
  have hzt := bt_size r
  have hdr : (bt (45 :: r)).extract 1 (r.length + 1) = bt r := by have := bt_drop (45 :: r) 1; rw [hsz] at this; exact this
  have hne : ((bt r).toList == (bt (45 :: r)).toList) = false := by
    rw [bt_toList, bt_toList]
    exact beq_eq_false_iff_ne.2 fun e => by have := congrArg List.length e; simp at this
  go_enter Tryd.func30, Tryd.ntmps30
  by_cases hl0 : r.length < 1
  · have hno : numOf s = none := num_none fun m hm => by have := num_len hm; rw [hu.out] at this; omega
    have hd1 : decide ((r.length : Int) < 1) = true := decide_eq_true (by omega)
    go_wp2
    go_ret2
    exact ⟨NumE.no hno, rfl⟩
  have hd1 : decide ((r.length : Int) < 1) = false := decide_eq_false (by omega)
  by_cases hl1 : 19 < r.length
  · have hno : numOf s = none := num_none fun m hm => by have := num_len hm; rw [hu.out] at this; omega
    have hd2 : decide ((19 : Int) < r.length) = true := decide_eq_true (by omega)
    go_wp2
    go_ret2
    exact ⟨NumE.no hno, rfl⟩
  have hd2 : decide ((19 : Int) < r.length) = false := decide_eq_false (by omega)
  go_wp2
  go_loop [5, 6] (fun nv iv => ∃ (i n : Nat), iv = .int .i64 i ∧ nv = .int .u64 n ∧ i ≤ r.length ∧ Hid (n = vD (r.take i) ∧ ∀ c ∈ r.take i, 48 ≤ c.toNat ∧ c.toNat ≤ 57)) (fun _ iv => r.length - (intOf iv).toNat)
  case atStart => exact ⟨0, 0, rfl, rfl, by omega, ⟨rfl, by simp⟩⟩
  case round =>
    obtain ⟨i, n, rfl, rfl, hi, hn⟩ := hrel
    have hnl : n < 10 ^ (r.take i).length := by have := vD_lt _ hn.out.2; rw [← hn.out.1] at this; exact this
    have hn19 : n < 10000000000000000000 := Nat.lt_of_lt_of_le hnl (by
      have : (r.take i).length ≤ 19 := by rw [List.length_take]; omega
      exact Nat.le_trans (Nat.pow_le_pow_right (by decide) this) (by decide))
    clear hnl
    by_cases hlt : i < r.length
    · obtain ⟨c, hc⟩ : ∃ c, r[i]? = some c := ⟨_, List.getElem?_eq_getElem hlt⟩
      have hgc := get_bt hc
      by_cases hd : 48 ≤ c.toNat ∧ c.toNat ≤ 57
      · have hnn : vD (r.take (i + 1)) = 10 * n + (c.toNat - 48) := by rw [vD_next hc, ← hn.out.1]
        have hall : ∀ c ∈ r.take (i + 1), 48 ≤ c.toNat ∧ c.toNat ≤ 57 := by
          intro c' hc'
          rw [List.take_add_one, hc] at hc'
          rcases List.mem_append.1 hc' with h | h
          · exact hn.out.2 c' h
          · simp at h; subst h; exact hd
        have hlim : vD (r.take (i + 1)) < 10 ^ (r.take (i + 1)).length := vD_lt _ hall
        have hlim2 : 10 * n + (c.toNat - 48) < 10000000000000000000 := by
          rw [← hnn]
          refine Nat.lt_of_lt_of_le hlim ?_
          have : (r.take (i + 1)).length ≤ 19 := by rw [List.length_take]; omega
          exact Nat.le_trans (Nat.pow_le_pow_right (by decide) this) (by decide)
        have hst : Hid ((10 * n + (c.toNat - 48) = vD (r.take (i + 1))) ∧ ∀ c ∈ r.take (i + 1), 48 ≤ c.toNat ∧ c.toNat ≤ 57) := ⟨hnn.symm, hall⟩
        obtain ⟨d, hd2⟩ : ∃ d : Nat, c.toNat = 48 + d := ⟨c.toNat - 48, by omega⟩
        replace hc := Hid.mk hc
        clear hlim hnn hall
        rw [hd2] at hlim2 hst
        have hd9 : d ≤ 9 := by omega
        have e1 : (48 + d - 48) = d := by omega
        rw [e1] at hlim2 hst
        obtain ⟨m, hm⟩ : ∃ m, 10 * n + d = m := ⟨_, rfl⟩
        rw [hm] at hst hlim2
        have hmi : Hid ((10 : Int) * n + d = m) := ⟨by omega⟩
        have hcz : (c.toNat : Int) = 48 + d := by omega
        go_wp2
        go_round
        case rel => exact ⟨i + 1, m, by go_num, congrArg (Value.int IntKind.u64) (by omega), by omega, hst⟩
        case measure => simp [intOf]; omega
      · have hno : numOf s = none := num_none fun m hm => by
          have h2 := (num_len hm).2.2.1
          rw [hu.out] at h2
          exact hd (h2 c (List.mem_of_getElem? hc))
        replace hc := Hid.mk hc
        by_cases hd1 : c.toNat < 48
        · have hdc : decide ((c.toNat : Int) < 48) = true := decide_eq_true (by omega)
          go_wp2
          go_ret2
          exact ⟨NumE.no hno, rfl⟩
        · have hdc : decide ((c.toNat : Int) < 48) = false := decide_eq_false (by omega)
          have hdd : decide ((57 : Int) < c.toNat) = true := decide_eq_true (by omega)
          go_wp2
          go_ret2
          exact ⟨NumE.no hno, rfl⟩
    · obtain rfl : i = r.length := by omega
      rw [List.take_of_length_le (Nat.le_refl _)] at hn
      by_cases hbig : 9223372036854775808 < n
      · have hno : numOf s = none := num_none fun m hm => by
          have h2 := (num_len hm).2.2.2
          obtain ⟨a, b⟩ := (num_some hm).2.2
          rw [hu.out, ← hn.out.1] at h2
          omega
        go_wp2
        go_ret2
        exact ⟨NumE.no hno, rfl⟩
      · have hfit : ∀ m, numOf s = some m → -(n : Int) = m := fun m hm => by
          have h2 := (num_len hm).2.2.2
          have h3 := (num_some hm).2.1
          rw [hu.out, ← hn.out.1] at h2
          rw [hs.out] at h3
          have h4 : m < 0 := h3.2 rfl
          omega
        clear hn
        obtain ⟨z, hz⟩ : ∃ z : Int, (n : Int) = z := ⟨_, rfl⟩
        have hz0 : 0 ≤ z := by omega
        have hz1 : z ≤ 9223372036854775808 := by omega
        rw [hz] at hfit ⊢
        clear hbig hn19 hz
        by_cases hmx : z = 9223372036854775808
        · have hx : In64 (-9223372036854775808) := ⟨by decide, by decide⟩
          have ht := text_any w (-9223372036854775808) hx
          have hend := Hid.mk (num_end hx (s := s) (fun m hm => by have h1 := hfit m hm; have h2 := (num_some hm).2.2.2; omega))
          have hw1 : IntKind.i64.wrap z = -9223372036854775808 := by rw [hmx]; decide
          have hw2 : IntKind.i64.wrap (-(-9223372036854775808)) = -9223372036854775808 := by decide
          have hnb : decide ((9223372036854775808 : Int) < z) = false := decide_eq_false (by omega)
          have hw3 : wrap64 9223372036854775808 = -9223372036854775808 := wrp _ _ (.inr (.inr (by decide))) hx
          replace hw3 := Hid.mk hw3
          clear hz0 hz1 hmx hfit
          go_wp2_with fail
          try rw [hw3.out]
          refine ht.mono ?_
          rintro e w1 ⟨rfl, rfl⟩
          go_wp2
          go_ret2
          exact ⟨by rw [← hs.out]; exact hend.out, rfl⟩
        · have hx : In64 (-z) := ⟨by omega, by omega⟩
          have ht := text_any w _ hx
          have hend := Hid.mk (num_end hx hfit)
          have hlt9 : z < 9223372036854775808 := by omega
          clear hfit hmx hz1
          go_wp2_with fail
          refine ht.mono ?_
          rintro e w1 ⟨rfl, rfl⟩
          go_wp2
          go_ret2
          exact ⟨by rw [← hs.out]; exact hend.out, rfl⟩
set_option maxRecDepth 100000 in
set_option maxHeartbeats 4000000 in
theorem rnum_pos (w : World) (s : K) (hr : s.length ≤ 1000000) (hh : s.head? ≠ some 45) : Calls Tryd.prog 30 #[.string (bt s)] w fun e w' => NumE s e ∧ w' = w := by
  obtain ⟨s', hs0⟩ : ∃ s', s' = s := ⟨_, rfl⟩
  have hs : Hid (s = s') := ⟨hs0.symm⟩
  clear hs0
  have hu : Hid (uns s = s) := ⟨by unfold uns; rw [if_neg hh]⟩
  have hzt := bt_size s
  have hne : ((bt s).toList == (bt s).toList) = true := by simp
  have hc0 : s = [] ∨ ∃ c r, s = c :: r ∧ c ≠ 45 := by
    cases s with
    | nil => exact .inl rfl
    | cons c r => exact .inr ⟨c, r, rfl, fun e => hh (by rw [e]; rfl)⟩
  rcases hc0 with rfl | ⟨c0, r0, hcr, hc0⟩
  · have hno : numOf [] = none := num_none fun m hm => by have := (num_len hm).1; simp [uns] at this
    go_enter Tryd.func30, Tryd.ntmps30
    go_wp2
    go_ret2
    exact ⟨NumE.no hno, rfl⟩
  have hl9 : 0 < s.length := by rw [hcr]; simp
  have hg0 := get_bt (k := s) (i := 0) (c := c0) (by rw [hcr]; rfl)
  have hq0 : ((c0.toNat : Int) == 45) = false := beq_eq_false_iff_ne.2 fun e => hc0 (UInt8.toNat_inj.1 (show c0.toNat = 45 from by omega))
  replace hcr := Hid.mk hcr
  go_enter Tryd.func30, Tryd.ntmps30
  have hd1 : decide ((s.length : Int) < 1) = false := decide_eq_false (by omega)
  by_cases hl1 : 19 < s.length
  · have hno : numOf s = none := num_none fun m hm => by have := num_len hm; rw [hu.out] at this; omega
    have hd2 : decide ((19 : Int) < s.length) = true := decide_eq_true (by omega)
    go_wp2
    go_ret2
    exact ⟨NumE.no hno, rfl⟩
  have hd2 : decide ((19 : Int) < s.length) = false := decide_eq_false (by omega)
  go_wp2
  go_loop [5, 6] (fun nv iv => ∃ (i n : Nat), iv = .int .i64 i ∧ nv = .int .u64 n ∧ i ≤ s.length ∧ Hid (n = vD (s.take i) ∧ ∀ c ∈ s.take i, 48 ≤ c.toNat ∧ c.toNat ≤ 57)) (fun _ iv => s.length - (intOf iv).toNat)
  case atStart => exact ⟨0, 0, rfl, rfl, by omega, ⟨rfl, by simp⟩⟩
  case round =>
    obtain ⟨i, n, rfl, rfl, hi, hn⟩ := hrel
    have hnl : n < 10 ^ (s.take i).length := by have := vD_lt _ hn.out.2; rw [← hn.out.1] at this; exact this
    have hn19 : n < 10000000000000000000 := Nat.lt_of_lt_of_le hnl (by
      have : (s.take i).length ≤ 19 := by rw [List.length_take]; omega
      exact Nat.le_trans (Nat.pow_le_pow_right (by decide) this) (by decide))
    clear hnl
    by_cases hlt : i < s.length
    · obtain ⟨c, hc⟩ : ∃ c, s[i]? = some c := ⟨_, List.getElem?_eq_getElem hlt⟩
      have hgc := get_bt hc
      by_cases hd : 48 ≤ c.toNat ∧ c.toNat ≤ 57
      · have hnn : vD (s.take (i + 1)) = 10 * n + (c.toNat - 48) := by rw [vD_next hc, ← hn.out.1]
        have hall : ∀ c ∈ s.take (i + 1), 48 ≤ c.toNat ∧ c.toNat ≤ 57 := by
          intro c' hc'
          rw [List.take_add_one, hc] at hc'
          rcases List.mem_append.1 hc' with h | h
          · exact hn.out.2 c' h
          · simp at h; subst h; exact hd
        have hlim : vD (s.take (i + 1)) < 10 ^ (s.take (i + 1)).length := vD_lt _ hall
        have hlim2 : 10 * n + (c.toNat - 48) < 10000000000000000000 := by
          rw [← hnn]
          refine Nat.lt_of_lt_of_le hlim ?_
          have : (s.take (i + 1)).length ≤ 19 := by rw [List.length_take]; omega
          exact Nat.le_trans (Nat.pow_le_pow_right (by decide) this) (by decide)
        have hst : Hid ((10 * n + (c.toNat - 48) = vD (s.take (i + 1))) ∧ ∀ c ∈ s.take (i + 1), 48 ≤ c.toNat ∧ c.toNat ≤ 57) := ⟨hnn.symm, hall⟩
        obtain ⟨d, hd2⟩ : ∃ d : Nat, c.toNat = 48 + d := ⟨c.toNat - 48, by omega⟩
        replace hc := Hid.mk hc
        clear hlim hnn hall
        rw [hd2] at hlim2 hst
        have hd9 : d ≤ 9 := by omega
        have e1 : (48 + d - 48) = d := by omega
        rw [e1] at hlim2 hst
        obtain ⟨m, hm⟩ : ∃ m, 10 * n + d = m := ⟨_, rfl⟩
        rw [hm] at hst hlim2
        have hmi : Hid ((10 : Int) * n + d = m) := ⟨by omega⟩
        have hcz : (c.toNat : Int) = 48 + d := by omega
        go_wp2
        go_round
        case rel => exact ⟨i + 1, m, by go_num, congrArg (Value.int IntKind.u64) (by omega), by omega, hst⟩
        case measure => simp [intOf]; omega
      · have hno : numOf s = none := num_none fun m hm => by
          have h2 := (num_len hm).2.2.1
          rw [hu.out] at h2
          exact hd (h2 c (List.mem_of_getElem? hc))
        replace hc := Hid.mk hc
        by_cases hd1 : c.toNat < 48
        · have hdc : decide ((c.toNat : Int) < 48) = true := decide_eq_true (by omega)
          go_wp2
          go_ret2
          exact ⟨NumE.no hno, rfl⟩
        · have hdc : decide ((c.toNat : Int) < 48) = false := decide_eq_false (by omega)
          have hdd : decide ((57 : Int) < c.toNat) = true := decide_eq_true (by omega)
          go_wp2
          go_ret2
          exact ⟨NumE.no hno, rfl⟩
    · obtain rfl : i = s.length := by omega
      rw [List.take_of_length_le (Nat.le_refl _)] at hn
      by_cases hbig : 9223372036854775808 < n
      · have hno : numOf s = none := num_none fun m hm => by
          have h2 := (num_len hm).2.2.2
          obtain ⟨a, b⟩ := (num_some hm).2.2
          rw [hu.out, ← hn.out.1] at h2
          omega
        go_wp2
        go_ret2
        exact ⟨NumE.no hno, rfl⟩
      · have hfit : ∀ m, numOf s = some m → (n : Int) = m := fun m hm => by
          have h2 := (num_len hm).2.2.2
          have h3 := (num_some hm).2.1
          rw [hu.out, ← hn.out.1] at h2
          skip
          have h4 : ¬ m < 0 := fun h => hh (h3.1 h)
          omega
        clear hn
        obtain ⟨z, hz⟩ : ∃ z : Int, (n : Int) = z := ⟨_, rfl⟩
        have hz0 : 0 ≤ z := by omega
        have hz1 : z ≤ 9223372036854775808 := by omega
        rw [hz] at hfit ⊢
        clear hbig hn19 hz
        by_cases hmx : z = 9223372036854775808
        · have hx : In64 (-9223372036854775808) := ⟨by decide, by decide⟩
          have ht := text_any w (-9223372036854775808) hx
          have hend := Hid.mk (num_end hx (s := s) (fun m hm => by have h1 := hfit m hm; have h2 := (num_some hm).2.2.2; omega))
          have hw1 : IntKind.i64.wrap z = -9223372036854775808 := by rw [hmx]; decide
          have hw2 : IntKind.i64.wrap (-(-9223372036854775808)) = -9223372036854775808 := by decide
          have hnb : decide ((9223372036854775808 : Int) < z) = false := decide_eq_false (by omega)
          have hw3 : wrap64 9223372036854775808 = -9223372036854775808 := wrp _ _ (.inr (.inr (by decide))) hx
          replace hw3 := Hid.mk hw3
          clear hz0 hz1 hmx hfit
          go_wp2_with fail
          try rw [hw3.out]
          refine ht.mono ?_
          rintro e w1 ⟨rfl, rfl⟩
          go_wp2
          go_ret2
          exact ⟨hend.out, rfl⟩
        · have hx : In64 (z) := ⟨by omega, by omega⟩
          have ht := text_any w _ hx
          have hend := Hid.mk (num_end hx hfit)
          have hlt9 : z < 9223372036854775808 := by omega
          clear hfit hmx hz1
          go_wp2_with fail
          refine ht.mono ?_
          rintro e w1 ⟨rfl, rfl⟩
          go_wp2
          go_ret2
          exact ⟨hend.out, rfl⟩
theorem rnum_any (w : World) (s : K) (hs : s.length ≤ 1000000) : Calls Tryd.prog 30 #[.string (bt s)] w fun e w' => NumE s e ∧ w' = w := by
  by_cases hh : s.head? = some 45
  · cases s with
    | nil => cases hh
    | cons c r =>
      simp at hh
      subst hh
      exact rnum_neg w r (by simp at hs; omega) ⟨rfl⟩
  · exact rnum_pos w s hs hh
end Go.Proofs.YtmahpceokpajgaaDoor
