/- All changes in the words of one plain error o: 0, and the use behind it, or another number and nothing. -/
import Derived.Test.YtlnikgejcogkeaaDrp
namespace Go.Proofs.Ytlnikgejcogkeaa
open Go.RowKit Go.IntWalk
set_option linter.unusedVariables false
/-- The error of a change. -/
def cg (k r t a b c x y z : Int) : Int := if Rgt k r t ∧ Rgt (k - a) (r - b) (t - c) then ovr (k - a + x) (r - b + y) (t - c + z) else 1
theorem cg_bad {k r t a b c x y z : Int} (h : ¬ (Rgt k r t ∧ Rgt (k - a) (r - b) (t - c))) : cg k r t a b c x y z = 1 := if_neg h
theorem cg_zero {k r t a b c x y z : Int} (hx : Sml x y z) : cg k r t a b c x y z = 0 ↔ Rgt k r t ∧ Rgt (k - a) (r - b) (t - c) ∧ Rgt (k - a + x) (r - b + y) (t - c + z) := by
  obtain ⟨⟨_, _⟩, ⟨_, _⟩, _, _⟩ := hx
  unfold cg
  constructor
  · intro h
    split at h
    · rename_i h2
      refine ⟨h2.1, h2.2, ?_⟩
      have := ovr_zero.1 h
      obtain ⟨_, ⟨_, _⟩, ⟨_, _⟩, _, _⟩ := h2
      exact ⟨by omega, by omega, by omega⟩
    · omega
  · rintro ⟨h1, h2, h3⟩
    rw [if_pos ⟨h1, h2⟩]
    exact ovr_zero.2 ⟨h3.1.2, h3.2.1.2, h3.2.2.2⟩
/-- quota.change. -/
theorem change_any {k r t a b c x y z : Int} (ha : Sml a b c) (hx : Sml x y z) {o : Int} (ho : Hid (cg k r t a b c x y z = o)) (w : World) :
    Calls Try.prog 19 #[uV k r t, uV a b c, uV x y z] w fun e w' => e = .returned (.tuple #[ans o (k - a + x) (r - b + y) (t - c + z), .int .i64 o]) ∧ Below w.heap.size w w' := by
  by_cases h : Rgt k r t
  · by_cases hl : Rgt (k - a) (r - b) (t - c)
    · exact change_more h ha hl hx w ⟨by rw [← ho.out, cg, if_pos ⟨h, hl⟩]⟩
    · obtain rfl : o = 1 := by rw [← ho.out, cg_bad (fun h2 => hl h2.2)]
      rw [ans_no (by decide)]
      exact change_less h ha hl x y z w
  · obtain rfl : o = 1 := by rw [← ho.out, cg_bad (fun h2 => h h2.1)]
    rw [ans_no (by decide)]
    exact change_bad h a b c x y z w
theorem change_ex {k r t a b c x y z : Int} (ha : Sml a b c) (hx : Sml x y z) {o : Int} (ho : Hid (cg k r t a b c x y z = o)) {K R T : Int} (hK : k - a + x = K) (hR : r - b + y = R) (hT : t - c + z = T) :
    ∃ p q s, ans o K R T = uV p q s ∧ Hid (∀ w1, Calls Try.prog 19 #[uV k r t, uV a b c, uV x y z] w1 fun e w' => e = .returned (.tuple #[uV p q s, .int .i64 o]) ∧ Below w1.heap.size w1 w') := by
  subst hK hR hT
  by_cases h : o = 0
  · subst h
    exact ⟨_, _, _, ans_ok _ _ _, ⟨fun w1 => by have := change_any ha hx ho w1; rwa [ans_ok] at this⟩⟩
  · exact ⟨_, _, _, ans_no h _ _ _, ⟨fun w1 => by have := change_any ha hx ho w1; rwa [ans_no h] at this⟩⟩
/-- A size may be. -/
def Siz (z : Int) : Prop := 0 ≤ z ∧ z ≤ 4000
instance (z : Int) : Decidable (Siz z) := by unfold Siz; infer_instance
theorem wrg3 {a b c : Int} : wrg [a, b, c] = false ↔ Siz a ∧ Siz b ∧ Siz c := by
  simp only [wrg, List.any_cons, List.any_nil, bad, Siz]
  simp
theorem wrg2 {a b : Int} : wrg [a, b] = false ↔ Siz a ∧ Siz b := by
  simp only [wrg, List.any_cons, List.any_nil, bad, Siz]
  simp
/-- The error of Put of a key that had no value. -/
def putN (k r t ky was vl : Int) : Int := if wrg [ky, was, vl] = true then 1 else cg k r t 0 0 0 1 (ky + vl) 0
/-- The error of Put of a key that had one. -/
def putH (k r t ky was vl : Int) : Int := if wrg [ky, was, vl] = true then 1 else cg k r t 1 (ky + was) 0 1 (ky + vl) 0
def drpE (k r t ky was : Int) : Int := if wrg [ky, was] = true then 1 else cg k r t 1 (ky + was) 0 0 0 0
theorem sml_zero : Sml 0 0 0 := ⟨⟨by omega, by omega⟩, ⟨by omega, by omega⟩, by omega, by omega⟩
theorem sml_key {a b : Int} (ha : Siz a) (hb : Siz b) : Sml 1 (a + b) 0 := by
  obtain ⟨_, _⟩ := ha
  obtain ⟨_, _⟩ := hb
  exact ⟨⟨by omega, by omega⟩, ⟨by omega, by omega⟩, by omega, by omega⟩
theorem sml_timer : Sml 0 0 1 := ⟨⟨by omega, by omega⟩, ⟨by omega, by omega⟩, by omega, by omega⟩
theorem putN_any {k r t ky was vl : Int} (h1 : I64 ky) (h2 : I64 was) (h3 : I64 vl) {o : Int} (ho : Hid (putN k r t ky was vl = o)) (w : World) :
    Calls Try.prog 10 #[uV k r t, .bool false, .int .i64 ky, .int .i64 was, .int .i64 vl] w fun e w' => e = .returned (.tuple #[ans o (k + 1) (r + (ky + vl)) t, .int .i64 o]) ∧ Below w.heap.size w w' := by
  cases hb : wrg [ky, was, vl] with
  | true =>
    obtain rfl : o = 1 := by rw [← ho.out, putN, if_pos hb]
    rw [ans_no (by decide)]
    exact put_wrong k r t false h1 h2 h3 hb w
  | false =>
    obtain ⟨a1, a2, a3⟩ := wrg3.1 hb
    have ho' : Hid (cg k r t 0 0 0 1 (ky + vl) 0 = o) := ⟨by rw [← ho.out, putN, if_neg (by rw [hb]; decide)]⟩
    obtain ⟨p, q, s, e1, hc⟩ := change_ex (K := k + 1) (R := r + (ky + vl)) (T := t) sml_zero (sml_key a1 a3) ho' (by omega) (by omega) (by omega)
    rw [e1]
    exact put_new k r t h1 h2 h3 hb w a1.1 a1.2 a2.1 a2.2 a3.1 a3.2 hc
theorem putH_any {k r t ky was vl : Int} (h1 : I64 ky) (h2 : I64 was) (h3 : I64 vl) {o : Int} (ho : Hid (putH k r t ky was vl = o)) (w : World) :
    Calls Try.prog 10 #[uV k r t, .bool true, .int .i64 ky, .int .i64 was, .int .i64 vl] w fun e w' => e = .returned (.tuple #[ans o k (r - was + vl) t, .int .i64 o]) ∧ Below w.heap.size w w' := by
  cases hb : wrg [ky, was, vl] with
  | true =>
    obtain rfl : o = 1 := by rw [← ho.out, putH, if_pos hb]
    rw [ans_no (by decide)]
    exact put_wrong k r t true h1 h2 h3 hb w
  | false =>
    obtain ⟨a1, a2, a3⟩ := wrg3.1 hb
    have ho' : Hid (cg k r t 1 (ky + was) 0 1 (ky + vl) 0 = o) := ⟨by rw [← ho.out, putH, if_neg (by rw [hb]; decide)]⟩
    obtain ⟨p, q, s, e1, hc⟩ := change_ex (K := k) (R := r - was + vl) (T := t) (sml_key a1 a2) (sml_key a1 a3) ho' (by omega) (by omega) (by omega)
    rw [e1]
    exact put_old k r t h1 h2 h3 hb w a1.1 a1.2 a2.1 a2.2 a3.1 a3.2 hc
theorem drop_any {k r t ky was : Int} (h1 : I64 ky) (h2 : I64 was) {o : Int} (ho : Hid (drpE k r t ky was = o)) (w : World) :
    Calls Try.prog 11 #[uV k r t, .int .i64 ky, .int .i64 was] w fun e w' => e = .returned (.tuple #[ans o (k - 1) (r - (ky + was)) t, .int .i64 o]) ∧ Below w.heap.size w w' := by
  cases hb : wrg [ky, was] with
  | true =>
    obtain rfl : o = 1 := by rw [← ho.out, drpE, if_pos hb]
    rw [ans_no (by decide)]
    exact drop_wrong k r t h1 h2 hb w
  | false =>
    obtain ⟨a1, a2⟩ := wrg2.1 hb
    have ho' : Hid (cg k r t 1 (ky + was) 0 0 0 0 = o) := ⟨by rw [← ho.out, drpE, if_neg (by rw [hb]; decide)]⟩
    obtain ⟨p, q, s, e1, hc⟩ := change_ex (K := k - 1) (R := r - (ky + was)) (T := t) (sml_key a1 a2) sml_zero ho' (by omega) (by omega) (by omega)
    rw [e1]
    exact drop_some k r t h1 h2 hb w a1.1 a1.2 a2.1 a2.2 hc
theorem cancel_any {k r t o : Int} (ho : Hid (cg k r t 0 0 1 0 0 0 = o)) (w : World) :
    Calls Try.prog 14 #[uV k r t] w fun e w' => e = .returned (.tuple #[ans o k r (t - 1), .int .i64 o]) ∧ Below w.heap.size w w' := by
  obtain ⟨p, q, s, e1, hc⟩ := change_ex (K := k) (R := r) (T := t - 1) sml_timer sml_zero ho (by omega) (by omega) (by omega)
  rw [e1]
  exact cancel_some k r t w hc
theorem armN_any {k r t o : Int} (ho : Hid (cg k r t 0 0 0 0 0 1 = o)) (w : World) :
    Calls Try.prog 13 #[uV k r t, .bool false] w fun e w' => e = .returned (.tuple #[ans o k r (t + 1), .int .i64 o]) ∧ Below w.heap.size w w' := by
  obtain ⟨p, q, s, e1, hc⟩ := change_ex (K := k) (R := r) (T := t + 1) sml_zero sml_timer ho (by omega) (by omega) (by omega)
  rw [e1]
  exact arm_some k r t false w (.inr ⟨rfl, rfl⟩) hc
theorem armH_any {k r t o : Int} (ho : Hid (cg k r t 0 0 1 0 0 1 = o)) (w : World) :
    Calls Try.prog 13 #[uV k r t, .bool true] w fun e w' => e = .returned (.tuple #[ans o k r t, .int .i64 o]) ∧ Below w.heap.size w w' := by
  obtain ⟨p, q, s, e1, hc⟩ := change_ex (K := k) (R := r) (T := t) sml_timer sml_timer ho (by omega) (by omega) (by omega)
  rw [e1]
  exact arm_some k r t true w (.inl ⟨rfl, rfl⟩) hc
set_option maxRecDepth 100000 in
set_option maxHeartbeats 1000000 in
/-- A live question. -/
theorem alive_any (w : World) : Calls Try.prog 6 #[] w fun e w' => e = .returned (.bool true) ∧ Below w.heap.size w w' := by
  have i64 : ∀ z : Int, Siz z → I64 z := fun z h => by obtain ⟨_, _⟩ := h; exact ⟨by omega, by omega⟩
  have h1 := fun w1 => putN_any (k := 1) (r := 5) (t := 0) (ky := 2) (was := 0) (vl := 3) (i64 _ (by decide)) (i64 _ (by decide)) (i64 _ (by decide)) (o := 0) ⟨by decide⟩ w1
  have h2 := fun w1 => putN_any (k := 1) (r := 3999) (t := 0) (ky := 2) (was := 0) (vl := 0) (i64 _ (by decide)) (i64 _ (by decide)) (i64 _ (by decide)) (o := 112) ⟨by decide⟩ w1
  simp only [ans_ok, ans_no (show (112 : Int) ≠ 0 by decide)] at h1 h2
  clear i64
  go_enter Try.func6, Try.ntmps6
  go_wp2_with fail
  refine (h1 _).mono ?_
  rintro e w1 ⟨rfl, hB1⟩
  go_wp2_with fail
  refine (h2 _).mono ?_
  rintro e w2 ⟨rfl, hB2⟩
  obtain ⟨c0, c1, c2, cf⟩ := own3 (heap_al (heap_keep (heap_new w1 (bU 2 10 0)) hB2) (bU 0 0 0))
  go_wp2
  go_ret
  refine ⟨rfl, ?_⟩
  have s1 := hB1.size
  have s2 := hB2.size
  simp at s2
  exact ((hB1.alloc s1 _).trans (hB2.mono (by simp; omega))).alloc (by omega) _
end Go.Proofs.Ytlnikgejcogkeaa
