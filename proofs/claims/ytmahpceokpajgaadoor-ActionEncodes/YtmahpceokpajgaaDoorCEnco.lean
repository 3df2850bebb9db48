/- What codec.Encode returns, for every list of fields that can be read: the walk. -/
import Derived.Test.YtmahpceokpajgaaDoorCEnc
namespace Go.Proofs.YtmahpceokpajgaaDoor.C
open Go.RowKit Go.Shelf Plain Go.IntWalk
set_option linter.unusedVariables false
attribute [local go_sem] Oper.semAt_some

def Fd.right (x : Fd) : Bool := rightB x.tag x.zs.length
/-- The fields themselves. -/
def fds {n₀ : Nat} {W : World} (ys : List (FdOk n₀ W)) : List Fd := ys.map (·.1)
theorem fds_snoc {n₀ : Nat} {W : World} (ys : List (FdOk n₀ W)) (x : FdOk n₀ W) : fds (ys ++ [x]) = fds ys ++ [x.1] := by unfold fds; rw [List.map_append]; rfl
theorem fds_length {n₀ : Nat} {W : World} (ys : List (FdOk n₀ W)) : (fds ys).length = ys.length := by unfold fds; rw [List.length_map]
theorem fds_all {n₀ : Nat} {W : World} {ys : List (FdOk n₀ W)} {p : Fd → Prop} (h : ∀ y ∈ ys, p y.1) : ∀ y ∈ fds ys, p y := by
  intro y hy; obtain ⟨z, hz, rfl⟩ := List.mem_map.1 hy; exact h z hz
/-- A field's bytes. -/
def encF (x : Fd) : List Int := x.tag :: (x.zs.length : Int) / 256 :: (x.zs.length : Int) % 256 :: x.zs
/-- A list's bytes. -/
def encL (xs : List Fd) : List Int := xs.flatMap encF

theorem Fd.ok.len_le {n₀ : Nat} {A : World} {x : Fd} (k : x.ok n₀ A) : x.len ≤ 9223372036854775807 := by
  obtain ⟨⟨⟨e | ⟨ad, cap, e⟩, h⟩ | ⟨b, off, cap, e, _, h1, h2, _⟩, _⟩, _⟩ := k
  · simp [Fd.sl] at e; omega
  · simp [Fd.sl] at e; omega
  · simp [Fd.sl] at e; unfold maxLen at h2; omega
theorem rightB_true {tag : Int} {len : Nat} (h : rightB tag len = true) : 1 ≤ tag ∧ tag ≤ 255 ∧ (len : Int) ≤ 2000 := by
  simp [rightB] at h; omega
theorem cell_two_0 {W : World} {B : Nat} {c d : Value} {t : TypeId} {fr : Nat × Nat} (h : W.heap[B]? = some (.cells #[c, d] t fr)) : W.cell? ⟨B, 0, none⟩ = some c := by simp [World.cell?, h]
theorem cell_two_1 {W : World} {B : Nat} {c d : Value} {t : TypeId} {fr : Nat × Nat} (h : W.heap[B]? = some (.cells #[c, d] t fr)) : W.cell? ⟨B, 1, none⟩ = some d := by simp [World.cell?, h]
theorem alloc_old {W : World} {B : Nat} {o o' : Obj} (h : W.heap[B]? = some o) : (W.alloc o').heap[B]? = some o := (Below.heap_alloc W _ B (Array.getElem?_eq_some_iff.1 h).1).trans h
theorem ownsRow_pos {W : World} {base : Nat} {e : TypeId} {size : Nat} {v : Value} {k : Nat} {xs : List Value} (h : W.ownsRow base e size v k xs) (hk : 0 < k) : ∃ g cap, v = .slice (some ⟨g, 0, none⟩) k cap := by
  rcases h.2 with ⟨_, h0⟩ | ⟨g, cap, _, rfl, _⟩
  · omega
  · exact ⟨g, cap, rfl⟩
theorem two_stores {W : World} {s k : Nat} {v : Value} {xs : List Value} (hrow : W.ownsRow s 5 1 v k xs) {u1 u2 : Value} (bR : Boxed W s 23 u1) (bE : Boxed W (s + 1) 26 u2) (v1 v2 : Value) :
    ((W.setCell ⟨s, 0, none⟩ v1).setCell ⟨s + 1, 0, none⟩ v2).ownsRow s 5 1 v k xs := by
  have h1 := hrow.kept (grownBy_setCell' W s v1) (.inr (bR.not_row (by decide) hrow).symm)
  have b1 := bE.other (B' := s) (by omega) v1
  exact h1.kept (grownBy_setCell' _ (s + 1) v2) (.inr (b1.not_row (by decide) h1).symm)
theorem after_alloc {W W2 : World} {o : Obj} (hW : W2 = W.alloc o) {s k Bx : Nat} {v c d : Value} {xs : List Value} (bv : Boxed W (s + 1 + 1) 23 v) (hrow : W.ownsRow s 5 1 v k xs) {u1 u2 : Value} (bR : Boxed W s 23 u1) (bE : Boxed W (s + 1) 26 u2)
    (bX : W.heap[Bx]? = some (.cells #[c, d] 55 (0, 0))) (hs : s ≤ W.heap.size) :
    Boxed W2 (s + 1 + 1) 23 v ∧ W2.ownsRow s 5 1 v k xs ∧ Boxed W2 s 23 u1 ∧ Boxed W2 (s + 1) 26 u2 ∧ W2.heap[Bx]? = some (.cells #[c, d] 55 (0, 0)) ∧ KeepsOthers W W2 ∧ Below s W W2 := by
  subst hW
  exact ⟨bv.alloc _, hrow.alloc _, bR.alloc _, bE.alloc _, (Below.heap_alloc W _ Bx (Array.getElem?_eq_some_iff.1 bX).1).trans bX, KeepsOthers.alloc _ _, (Below.refl _ _).alloc hs _⟩
theorem encL_snoc (xs : List Fd) (x : Fd) : encL (xs ++ [x]) = encL xs ++ ([x.tag, (x.zs.length : Int) / 256, (x.zs.length : Int) % 256] ++ x.zs) := by simp [encL, encF]
theorem encL_le (xs : List Fd) (h : ∀ x ∈ xs, x.right = true) : (encL xs).length ≤ 2003 * xs.length := by
  induction xs with
  | nil => simp [encL]
  | cons x xs ih =>
    have h1 := ih (fun y hy => h y (by simp [hy]))
    have h2 := rightB_true (h x (by simp))
    simp only [encL, List.flatMap_cons, List.length_append, encF, List.length_cons] at h1 ⊢
    omega
theorem bts_lit3 (W : World) (a b c : Int) (ha : 0 ≤ a ∧ a < 256) (hb : 0 ≤ b ∧ b < 256) (hc : 0 ≤ c ∧ c < 256) :
    Bts (W.heap.size + 1) (W.alloc (.cells #[.int .u8 a, .int .u8 b, .int .u8 c] 5)) (.slice (some ⟨W.heap.size, 0, none⟩) 3 3) [a, b, c] := by
  refine ⟨.inr ⟨W.heap.size, 0, 3, rfl, by omega, by simp, by unfold maxLen; omega, fun j hj => ?_⟩, ?_⟩
  · have hh := heap_alloc_new W (.cells #[.int .u8 a, .int .u8 b, .int .u8 c] 5)
    simp only [World.cell?, hh, Nat.zero_add]
    match j, hj with
    | 0, _ => rfl
    | 1, _ => rfl
    | 2, _ => rfl
  · intro z hz
    simp at hz
    rcases hz with rfl | rfl | rfl <;> assumption
set_option maxRecDepth 100000 in
set_option maxHeartbeats 1000000 in
theorem encode_t (F : Fence) (n : Nat) (h11 : F.fn 25) (h21 : F.fn 39) (h26 : F.fn 54) (h22 : F.fn 40) (hro : F.round = none) (hn : 5 ≤ n) (a : Option Addr) (cap len : Nat) (w : World) (ys : List (FdOk w.heap.size w)) (hI : Flds w.heap.size w (.slice a len cap) (fds ys)) (hl : len ≤ 200) (hll : ys.length = len) :
    CallsIn F n Tryd.prog 25 #[.slice a len cap] w fun e W' => (∃ v, e = .returned (.tuple #[v, .int .i64 0]) ∧ (∀ y ∈ ys, y.1.right = true) ∧ W'.ownsRow w.heap.size 5 1 v (encL (fds ys)).length ((encL (fds ys)).map (Value.int .u8)) ∧ Below w.heap.size w W') ∨ (e = .returned (.tuple #[.slice none 0 0, .int .i64 11]) ∧ (∃ y ∈ ys, y.1.right = false) ∧ Below w.heap.size w W') := by
  have h1 : 1 ≤ n := by omega
  have hl' : decide ((200 : Int) < (len : Int)) = false := by simp; omega
  refine callsIn_of_wp_marks Tryd.func25 rfl h11 ?_ hro
  simp only [Tryd.ntmps25, List.size_toArray, List.length_cons, List.length_nil, Nat.reduceAdd, Nat.reduceSub, Array.replicate_succ, Array.replicate_zero, List.push_toArray, List.append_toArray, List.nil_append, List.cons_append]
  gi_wp2_with (gi_at_call 39; refine (values_in F (n - 1) h21 hro _ _ _ _).mono ?_; rintro e w' ⟨rfl, rfl⟩)
  have bR := ((((Boxed.new w 23 (.slice none 0 0)).alloc (.cells #[.int .i64 0] 26)).alloc (.cells #[.slice none 0 0] 23)).alloc (.cells #[.slice a len cap] 53))
  have bE := (((Boxed.new (w.alloc (.cells #[.slice none 0 0] 23)) 26 (.int .i64 0)).alloc (.cells #[.slice none 0 0] 23)).alloc (.cells #[.slice a len cap] 53))
  have bB := ((Boxed.new ((w.alloc (.cells #[.slice none 0 0] 23)).alloc (.cells #[.int .i64 0] 26)) 23 (.slice none 0 0)).alloc (.cells #[.slice a len cap] 53))
  have bV := Boxed.new (((w.alloc (.cells #[.slice none 0 0] 23)).alloc (.cells #[.int .i64 0] 26)).alloc (.cells #[.slice none 0 0] 23)) 53 (.slice a len cap)
  simp only [World.size_alloc] at bE bB bV
  have hB0 : Below w.heap.size w ((((w.alloc (.cells #[.slice none 0 0] 23)).alloc (.cells #[.int .i64 0] 26)).alloc (.cells #[.slice none 0 0] 23)).alloc (.cells #[.slice a len cap] 53)) := ((((Below.refl _ w).alloc (Nat.le_refl _) _).alloc (by simp) _).alloc (by simp; omega) _).alloc (by simp; omega) _
  have hsz : ((((w.alloc (.cells #[.slice none 0 0] 23)).alloc (.cells #[.int .i64 0] 26)).alloc (.cells #[.slice none 0 0] 23)).alloc (.cells #[.slice a len cap] 53)).heap.size = w.heap.size + 4 := by simp
  obtain ⟨W0, hW0⟩ : ∃ W0, (((w.alloc (.cells #[.slice none 0 0] 23)).alloc (.cells #[.int .i64 0] 26)).alloc (.cells #[.slice none 0 0] 23)).alloc (.cells #[.slice a len cap] 53) = W0 := ⟨_, rfl⟩
  rw [hW0] at bR bE bB bV hB0 hsz ⊢
  clear hW0
  refine wpIn_rangeFunc_ownH hro h1 (gf := 54) (lb := #[.pointer (some ⟨w.heap.size + 1 + 1 + 1, 0, none⟩)]) rfl h26 (enters_of Tryd.func54 (by kernel_rfl) rfl)
    (values_stops F (n - 1) h26 hro (by omega) (w.heap.size + 1 + 1 + 1) w.heap.size w _ ys W0 (by omega) (by omega) bV.cell (hI.below hB0)) belowK_t (belowK_b (by omega)) (Below.refl _ _) (fun _ => rfl)
    (fun (pre : List (FdOk w.heap.size w)) W => (((∃ v, Boxed W (w.heap.size + 1 + 1) 23 v ∧ W.ownsRow w.heap.size 5 1 v (encL (fds pre)).length ((encL (fds pre)).map (Value.int .u8)) ∧ (∀ y ∈ pre, y.1.right = true)) ∧ Boxed W w.heap.size 23 (.slice none 0 0)) ∧ Boxed W (w.heap.size + 1) 26 (.int .i64 0)) ∧ Below w.heap.size w W)
    (fun c (pre : List (FdOk w.heap.size w)) W => (((c = .ret ∧ ∃ y ∈ pre, y.1.right = false) ∧ Boxed W w.heap.size 23 (.slice none 0 0)) ∧ Boxed W (w.heap.size + 1) 26 (.int .i64 11)) ∧ Below w.heap.size w W)
    (OwnFrom.and (OwnFrom.and (OwnFrom.and (Own.from (holdsRow_own w.heap.size (w.heap.size + 1 + 1) 23 5 1 (fun (pre : List (FdOk w.heap.size w)) => (encL (fds pre)).length) (fun (pre : List (FdOk w.heap.size w)) => (encL (fds pre)).map (Value.int .u8)) (fun (pre : List (FdOk w.heap.size w)) _ => ∀ y ∈ pre, y.1.right = true)) _) (Own.from (boxed_own _ _ _) _)) (Own.from (boxed_own _ _ _) _)) (ownFrom_below (Nat.le_refl _) (by omega)))
    (fun c => OwnFrom.and (OwnFrom.and (OwnFrom.and (ownFrom_pure _ _) (Own.from (boxed_own _ _ _) _)) (Own.from (boxed_own _ _ _) _)) (ownFrom_below (Nat.le_refl _) (by omega)))
    ⟨⟨⟨⟨_, bB, World.ownsRow_nil _ _ _ _, fun _ h => by cases h⟩, bR⟩, bE⟩, hB0⟩
    (fun (x : FdOk w.heap.size w) a' W => ∃ Bx, w.heap.size + 1 + 1 < Bx ∧ W.heap[Bx]? = some (.cells #[.int .i64 x.1.tag, .slice x.1.a x.1.len x.1.cap] 55 (0, 0)) ∧ a' = { tmps := #[.slice a len cap, undef, .pointer (some ⟨w.heap.size, 0, none⟩), .pointer (some ⟨w.heap.size + 1, 0, none⟩), .pointer (some ⟨w.heap.size + 1 + 1, 0, none⟩), .pointer (some ⟨Bx, 0, none⟩), undef, .slice a len cap, .int .i64 len, .bool false, .slice a len cap, .func (.func 54) #[] #[.pointer (some ⟨w.heap.size + 1 + 1 + 1, 0, none⟩)], .agg #[.int .i64 x.1.tag, .slice x.1.a x.1.len x.1.cap], undef, undef, undef, undef, undef, undef, undef, undef, undef, undef, undef, undef, undef, undef, undef, undef, undef, undef, undef, undef, undef, undef], defers := [] })
    (fun x a' _ X Y row hs hg hr => by
      obtain ⟨Bx, h1, h2, h3⟩ := hs
      refine ⟨Bx, h1, (hg.block Bx (Array.getElem?_eq_some_iff.1 h2).1 (fun e => ?_)).trans h2, h3⟩
      obtain ⟨_, o, ho, hc⟩ := hr Bx e.symm
      rw [h2] at ho; cases ho; cases hc)
    ?assign ?body ?done ?stop
  case assign =>
    rintro l pre x W K ⟨⟨⟨⟨v, bv, hrow, hall⟩, bR1⟩, bE1⟩, hB1⟩ hK
    gi_wp2
    exact hK _ _ ((KeepsOthers.alloc _ _).from _) ((Below.refl _ W).alloc hB1.size _) ⟨⟨⟨⟨v, bv.alloc _, hrow.alloc _, hall⟩, bR1.alloc _⟩, bE1.alloc _⟩, hB1.alloc hB1.size _⟩ ⟨W.heap.size, bv.lt, heap_alloc_new W _, rfl⟩
  case body =>
    rintro l pre x a' W hlw _ ⟨⟨⟨⟨v, bv, hrow, hall⟩, bR1⟩, bE1⟩, hB1⟩ ⟨Bx, hBx, bX, rfl⟩ hlt
    have h1' : 1 ≤ n - 1 - 1 := by omega
    have cX0 : W.cell? ⟨Bx, 0, none⟩ = some (.int .i64 x.1.tag) := by simp [World.cell?, bX]
    have cX1 : W.cell? ⟨Bx, 1, none⟩ = some (.slice x.1.a x.1.len x.1.cap) := by simp [World.cell?, bX]
    have hm : x.1.len ≤ 9223372036854775807 := x.2.len_le
    by_cases hr : x.1.right = true
    · have hr' : rightB x.1.tag x.1.len = true := by rw [x.2.len]; exact hr
      obtain ⟨hr1, hr2, hr3⟩ := rightB_true hr'
      have hlen := x.2.len
      have hle := encL_le (fds pre) (fds_all hall)
      rw [fds_length] at hle
      have hbx := x.2.1
      have HB : Hid (x.1.len = x.1.zs.length) := hlen
      clear hlen
      gi_wp2_with (first
        | (gi_at_call 40; refine (CallsIn.inRound l (right_in F (n - 1 - 1 - 1) h22 hro _ _ _ _ hm _)).mono ?_; rintro e W2 ⟨rfl, hW2⟩; obtain ⟨bv2, hrow2, bR2, bE2, bX2, hk2, hb2⟩ := after_alloc hW2 bv hrow bR1 bE1 bX hB1.size; clear hW2; have cX20 := cell_two_0 bX2; have cX21 := cell_two_1 bX2; have cv2 := bv2.cell)
        | (gi_at_builtin; refine wpListIn_append_bts _ rfl (.tmp 19) (.tmp 28) rfl w.heap.size (W2.heap.size + 1) v _ _ (encL (fds pre)) [x.1.tag, (x.1.len : Int) / 256, (x.1.len : Int) % 256] rfl rfl (hrow2.alloc _) (bts_lit3 W2 _ _ _ (by omega) (by omega) (by omega)) (by show _ + 3 ≤ _; omega) (by have := hb2.size; have := hB1.size; simp; omega) ?_; intro v1 w1 hown1 hgrow1; replace hown1 : w1.ownsRow w.heap.size 5 1 v1 ((encL (fds pre)).length + 3) ((encL (fds pre) ++ [x.1.tag, (x.1.len : Int) / 256, (x.1.len : Int) % 256]).map (Value.int .u8)) := hown1; obtain ⟨g1, cap1, rfl⟩ := ownsRow_pos hown1 (by omega); obtain ⟨hv1, bv3, hrow3, hk3, hb3, hkeep, hkeep1⟩ := appended (bv2.alloc _) (hrow2.alloc _) (by have := hb2.size; have := hB1.size; simp; omega) (by omega) hown1 hgrow1; have bX3 := hkeep Bx 55 _ _ (alloc_old bX2) (by decide) (by omega); have bX1 := hkeep1 Bx 55 _ _ (alloc_old bX2) (by decide); have cX3 := cell_two_1 bX3; have cX11 := cell_two_1 bX1; have cv1 := hv1.cell; have fv1 := hv1.frozen; have cv3 := bv3.cell; have fv3 := bv3.frozen; have bR3 := hkeep _ 23 _ _ (bR2.alloc _) (by decide) (by omega); have bE3 := hkeep _ 26 _ _ (bE2.alloc _) (by decide) (by omega); have hb23 := hb2.trans (((Below.refl _ W2).alloc (by have := hb2.size; have := hB1.size; omega) _).trans hb3); have hk23 := hk2.trans ((KeepsOthers.alloc W2 _).trans hk3); clear hkeep hkeep1 hown1 hgrow1)
        | (gi_at_builtin; go_must (refine wpListIn_append_bts _ rfl (.tmp 30) (.tmp 32) rfl w.heap.size w.heap.size _ (.slice x.1.a x.1.len x.1.cap) _ _ x.1.zs rfl rfl hrow3 (hbx.below (hB1.trans hb23)) (by have := HB.out; omega) (by have := hb23.size; have := hB1.size; omega) ?_); intro v4 w4 hown4 hgrow4; obtain ⟨g4, cap4, rfl⟩ := ownsRow_pos hown4 (by omega); obtain ⟨hv5, bv5, hrow5, hk5, hb5, hkeep5, _⟩ := appended bv3 hrow3 (by have := hb23.size; have := hB1.size; omega) (by omega) hown4 hgrow4; have bR5 := hkeep5 _ 23 _ _ bR3 (by decide) (by omega); have bE5 := hkeep5 _ 26 _ _ bE3 (by decide) (by omega); have cv5 := hv5.cell; have fv5 := hv5.frozen; clear hkeep5 hown4 hgrow4))
      have hE : encL (fds (pre ++ [x])) = encL (fds pre) ++ [x.1.tag, (x.1.len : Int) / 256, (x.1.len : Int) % 256] ++ x.1.zs := by
        rw [fds_snoc, encL_snoc, HB.out, List.append_assoc]
      refine ⟨(hk23.trans hk5).from _, hb23.trans hb5, ⟨⟨⟨_, bv5, ?_, ?_⟩, bR5⟩, bE5⟩, hB1.trans (hb23.trans hb5)⟩
      · rw [hE]
        rw [show (encL (fds pre) ++ [x.1.tag, (x.1.len : Int) / 256, (x.1.len : Int) % 256] ++ x.1.zs).length = (encL (fds pre)).length + 3 + x.1.zs.length from by rw [List.length_append, List.length_append]; rfl]
        exact hrow5
      · intro y hy
        rcases List.mem_append.1 hy with h | h
        · exact hall y h
        · obtain rfl : y = x := by simpa using h
          exact hr
    · have hr' : rightB x.1.tag x.1.len = false := by rw [x.2.len]; exact Bool.eq_false_iff.2 hr
      gi_wp2_with (gi_at_call 40; refine (CallsIn.inRound l (right_in F (n - 1 - 1 - 1) h22 hro _ _ _ _ hm _)).mono ?_; rintro e W2 ⟨rfl, hW2⟩; obtain ⟨bv2, hrow2, bR2, bE2, bX2, hk2, hb2⟩ := after_alloc hW2 bv hrow bR1 bE1 bX hB1.size; clear hW2; have cR2 := bR2.cell; have fR2 := bR2.frozen; have cE2 := bE2.cell; have fE2 := bE2.frozen)
      refine ⟨?_, ⟨⟨⟨rfl, x, by simp, Bool.eq_false_iff.2 hr⟩, ?_⟩, ?_⟩, ?_⟩
      · exact (hk2.trans ((KeepsOthers.setCell _ _ _).trans (KeepsOthers.setCell _ _ _))).from _
      · exact (bR2.set _).other (by omega) _
      · exact (bE2.other (B' := w.heap.size) (by omega) _).set _
      · exact ((hB1.trans hb2).setCell (p := ⟨w.heap.size, 0, none⟩) (Nat.le_refl _) _).setCell (p := ⟨w.heap.size + 1, 0, none⟩) (by simp) _
  case done =>
    rintro D zs W hD rfl ⟨⟨⟨⟨v, bv, hrow, hall⟩, bR1⟩, bE1⟩, hB1⟩ hK
    have cR := bR1.cell
    have fR := bR1.frozen
    have cE := bE1.cell
    have fE := bE1.frozen
    have bR2 := bR1.set v
    have bE2 := (bE1.other (B' := w.heap.size) (by omega) v).set (.int .i64 0)
    rcases hrow.2 with ⟨rfl, h0⟩ | ⟨g, cap', cur, rfl, hrest⟩
    · have cv := bv.cell
      gi_wp2
      have hk4 := (KeepsOthers.setCell W ⟨w.heap.size, 0, none⟩ (.slice none 0 0)).trans (KeepsOthers.setCell _ ⟨w.heap.size + 1, 0, none⟩ (.int .i64 0))
      have hK' := hk4.same D _ hK rfl
      refine ⟨by simp, .inl ⟨_, _, rfl, run_takeDeferred hK', ?_⟩⟩
      have b3 := (bR1.set (.slice none 0 0)).other (B' := w.heap.size + 1) (by omega) (.int .i64 0)
      have c1 := cell_kept b3.cell (grownBy_putObj' _ D (.deferred none)) (fun r e => by cases e; exact ⟨_, hK', rfl⟩)
      have c2 := cell_kept bE2.cell (grownBy_putObj' _ D (.deferred none)) (fun r e => by cases e; exact ⟨_, hK', rfl⟩)
      refine ⟨.tuple #[(.slice none 0 0), .int .i64 0], ?_, .inl ⟨_, rfl, hall, ?_, ?_⟩⟩
      · simp [results, go_sem, c1, c2]
      · refine ownsRow_putObj ?_ _ hK' rfl
        exact two_stores hrow bR1 bE1 _ _
      · exact ((hB1.setCell (p := ⟨w.heap.size, 0, none⟩) (Nat.le_refl _) _).setCell (p := ⟨w.heap.size + 1, 0, none⟩) (by simp) _).trans (belowK_b (w := w) (Nat.le_refl _) _ D _ _ (by omega) hK' rfl rfl)
    · have cv := bv.cell
      gi_wp2
      have hk4 := (KeepsOthers.setCell W ⟨w.heap.size, 0, none⟩ (.slice (some ⟨g, 0, none⟩) (encL (fds zs)).length cap')).trans (KeepsOthers.setCell _ ⟨w.heap.size + 1, 0, none⟩ (.int .i64 0))
      have hK' := hk4.same D _ hK rfl
      refine ⟨by simp, .inl ⟨_, _, rfl, run_takeDeferred hK', ?_⟩⟩
      have b3 := (bR1.set (.slice (some ⟨g, 0, none⟩) (encL (fds zs)).length cap')).other (B' := w.heap.size + 1) (by omega) (.int .i64 0)
      have c1 := cell_kept b3.cell (grownBy_putObj' _ D (.deferred none)) (fun r e => by cases e; exact ⟨_, hK', rfl⟩)
      have c2 := cell_kept bE2.cell (grownBy_putObj' _ D (.deferred none)) (fun r e => by cases e; exact ⟨_, hK', rfl⟩)
      refine ⟨.tuple #[(.slice (some ⟨g, 0, none⟩) (encL (fds zs)).length cap'), .int .i64 0], ?_, .inl ⟨_, rfl, hall, ?_, ?_⟩⟩
      · simp [results, go_sem, c1, c2]
      · refine ownsRow_putObj ?_ _ hK' rfl
        exact two_stores hrow bR1 bE1 _ _
      · exact ((hB1.setCell (p := ⟨w.heap.size, 0, none⟩) (Nat.le_refl _) _).setCell (p := ⟨w.heap.size + 1, 0, none⟩) (by simp) _).trans (belowK_b (w := w) (Nat.le_refl _) _ D _ _ (by omega) hK' rfl rfl)
  case stop =>
    rintro D c pre W hD hpre ⟨⟨⟨⟨rfl, y, hy, hyr⟩, bR1⟩, bE1⟩, hB1⟩ hK
    gi_wp2
    refine ⟨by simp, .inl ⟨_, _, rfl, run_takeDeferred hK, ?_⟩⟩
    have c1 := cell_kept bR1.cell (grownBy_putObj' _ D (.deferred none)) (fun r e => by cases e; exact ⟨_, hK, rfl⟩)
    have c2 := cell_kept bE1.cell (grownBy_putObj' _ D (.deferred none)) (fun r e => by cases e; exact ⟨_, hK, rfl⟩)
    refine ⟨.tuple #[.slice none 0 0, .int .i64 11], ?_, .inr ⟨rfl, ⟨y, hpre.subset hy, hyr⟩, hB1.trans (belowK_b (w := w) (Nat.le_refl _) W D _ _ (by omega) hK rfl rfl)⟩⟩
    simp [results, go_sem, c1, c2]
end Go.Proofs.YtmahpceokpajgaaDoor.C
