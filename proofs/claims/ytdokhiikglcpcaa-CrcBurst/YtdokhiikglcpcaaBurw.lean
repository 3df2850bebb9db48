/- The walk of the law CrcBurst: whatever the three lists of bytes and the four bytes, it answers true, and nothing that lay in memory has turned. -/
import Derived.Test.YtdokhiikglcpcaaLater
namespace Go.Proofs.Ytdokhiikglcpcaa
open Go.RowKit Go.IntWalk Crcm
set_option linter.unusedVariables false

theorem bt_inj {a b : Int} (ha : 0 ≤ a ∧ a < 256) (hb : 0 ≤ b ∧ b < 256) (h : bt a = bt b) : a = b := by
  have := congrArg BitVec.toNat h
  unfold bt at this
  rw [BitVec.toNat_ofNat, BitVec.toNat_ofNat] at this
  omega
theorem bts_inj : ∀ {xs ys : List Int}, (∀ z ∈ xs, 0 ≤ z ∧ z < 256) → (∀ z ∈ ys, 0 ≤ z ∧ z < 256) → bts xs = bts ys → xs = ys
  | [], [], _, _, _ => rfl
  | [], _ :: _, _, _, h => by simp [bts] at h
  | _ :: _, [], _, _, h => by simp [bts] at h
  | a :: xs, b :: ys, hx, hy, h => by
    simp only [bts, List.map_cons, List.cons.injEq] at h
    rw [bt_inj (hx a (by simp)) (hy b (by simp)) h.1, bts_inj (fun z hz => hx z (by simp [hz])) (fun z hz => hy z (by simp [hz])) h.2]
/-- Other bytes, another sum; the same, the same. -/
theorem burst_sums (p xs ys q : List Int) (hx : ∀ z ∈ xs, 0 ≤ z ∧ z < 256) (hy : ∀ z ∈ ys, 0 ≤ z ∧ z < 256) (hl : xs.length = ys.length) (h4 : xs.length ≤ 4) :
    (U (sum (bts (p ++ xs ++ q))) == U (sum (bts (p ++ ys ++ q)))) = decide (xs = ys) := by
  rw [U_eq, Bool.eq_iff_iff]
  simp only [decide_eq_true_eq]
  have e : ∀ zs : List Int, bts (p ++ zs ++ q) = bts p ++ bts zs ++ bts q := fun zs => by unfold bts; rw [List.map_append, List.map_append]
  rw [e, e, burst _ _ _ _ (by simpa [bts] using hl) (by simpa [bts] using h4)]
  exact ⟨bts_inj hx hy, fun h => by rw [h]⟩

set_option maxRecDepth 100000 in
set_option maxHeartbeats 2000000 in
theorem burst_out (a b c : Option Addr) (la lb lc ca cb cc : Nat) (n0 n1 n2 n3 : Int) (w : World)
    (h : decide (3000 < (la : Int)) = true ∨ (decide (3000 < (la : Int)) = false ∧ decide (3000 < (lc : Int)) = true)) :
    Calls Try.prog 5 #[.agg #[.slice a la ca, .slice b lb cb, .slice c lc cc], .agg #[.int .u8 n0, .int .u8 n1, .int .u8 n2, .int .u8 n3]] w fun e w' => e = .returned (.bool true) ∧ Below w.heap.size w w' := by
  rcases h with h1 | ⟨h1, h2⟩
  all_goals
    go_enter Try.func5, Try.ntmps5
    go_wp2_with fail
    refine (alive_any _).mono ?_
    rintro e w1 ⟨rfl, hB1⟩
    go_wp2
    go_ret
    exact ⟨rfl, (((Below.refl _ w).alloc (Nat.le_refl _) _).alloc (by simp) _).trans (hB1.mono (by simp; omega))⟩

/-- What the two boxes hold. -/
theorem boxes (w : World) (s0 s1 s2 : Value) (n0 n1 n2 n3 : Int) :
    ∃ W, W = (w.alloc (.cells #[s0, s1, s2] 29)).alloc (.cells #[.int .u8 n0, .int .u8 n1, .int .u8 n2, .int .u8 n3] 32) ∧ Below w.heap.size w W ∧ w.heap.size + 1 < W.heap.size ∧
      W.cell? ⟨w.heap.size, 0, none⟩ = some s0 ∧ W.cell? ⟨w.heap.size, 1, none⟩ = some s1 ∧ W.cell? ⟨w.heap.size, 2, none⟩ = some s2 ∧
      ∀ j, j < 4 → W.cell? ⟨w.heap.size + 1, j, none⟩ = some (.int .u8 ([n0, n1, n2, n3][j]?.getD 0)) := by
  have h1 := heap_alloc_new (w.alloc (.cells #[s0, s1, s2] 29)) (.cells #[.int .u8 n0, .int .u8 n1, .int .u8 n2, .int .u8 n3] 32)
  rw [World.size_alloc] at h1
  have h2 := heap_alloc_new w (.cells #[s0, s1, s2] 29)
  have kb := (Below.refl (w.alloc (.cells #[s0, s1, s2] 29)).heap.size (w.alloc (.cells #[s0, s1, s2] 29))).alloc (Nat.le_refl _) (.cells #[.int .u8 n0, .int .u8 n1, .int .u8 n2, .int .u8 n3] 32)
  refine ⟨_, rfl, ((Below.refl _ w).alloc (Nat.le_refl _) _).alloc (by simp) _, by simp, (kb.cell (p := ⟨w.heap.size, 0, none⟩) (by simp)).trans (Joins.cell_of_block h2 0), (kb.cell (p := ⟨w.heap.size, 1, none⟩) (by simp)).trans (Joins.cell_of_block h2 1), (kb.cell (p := ⟨w.heap.size, 2, none⟩) (by simp)).trans (Joins.cell_of_block h2 2), fun j hj => ?_⟩
  rcases (show j = 0 ∨ j = 1 ∨ j = 2 ∨ j = 3 from by omega) with rfl | rfl | rfl | rfl
  · exact Joins.cell_of_block h1 0
  · exact Joins.cell_of_block h1 1
  · exact Joins.cell_of_block h1 2
  · exact Joins.cell_of_block h1 3

set_option maxRecDepth 100000 in
set_option maxHeartbeats 4000000 in
theorem burst_long (a b c : Option Addr) (la lb lc ca cb cc : Nat) (n0 n1 n2 n3 : Int) (xs ys zs : List Int) (w : World)
    (hx : Bts w.heap.size w (.slice a la ca) xs) (hy : Bts w.heap.size w (.slice b lb cb) ys) (hz : Bts w.heap.size w (.slice c lc cc) zs)
    (b0 : 0 ≤ n0 ∧ n0 < 256) (b1 : 0 ≤ n1 ∧ n1 < 256) (b2 : 0 ≤ n2 ∧ n2 < 256) (b3 : 0 ≤ n3 ∧ n3 < 256)
    (h1 : decide (3000 < (la : Int)) = false) (h2 : decide (3000 < (lc : Int)) = false) (h4 : decide (4 < (lb : Int)) = true) :
    Calls Try.prog 5 #[.agg #[.slice a la ca, .slice b lb cb, .slice c lc cc], .agg #[.int .u8 n0, .int .u8 n1, .int .u8 n2, .int .u8 n3]] w fun e w' => e = .returned (.bool true) ∧ Below w.heap.size w w' := by
  obtain rfl := hx.len
  obtain rfl := hz.len
  have hl4 : 4 < lb := by simp at h4; omega
  obtain ⟨b', hcut, by0⟩ := run_cut hy 4 (by decide) (by rw [← hy.len]; omega)
  have hyl : (ys.take 4).length = 4 := by rw [List.length_take, ← hy.len]; omega
  rw [show (4 : Int).toNat = 4 from rfl] at hcut by0
  have m1 : xs.length ≤ 3000 := by simp at h1; omega
  have m3 : zs.length ≤ 3000 := by simp at h2; omega
  have hcs : ∀ z ∈ [n0, n1, n2, n3], 0 ≤ z ∧ z < 256 := by
    intro z hz
    simp only [List.mem_cons, List.not_mem_nil, or_false] at hz
    rcases hz with rfl | rfl | rfl | rfl <;> assumption
  go_enter Try.func5, Try.ntmps5
  go_wp2
  obtain ⟨W, hW, hB0, hBs, q0, q1, q2, q4⟩ := boxes w (.slice a xs.length ca) (.slice b lb cb) (.slice c zs.length cc) n0 n1 n2 n3
  rw [← hW]
  clear hW
  have bx := (hx.below hB0).mono hB0.size
  have by' := (by0.below hB0).mono hB0.size
  have bz := (hz.below hB0).mono hB0.size
  generalize w.heap.size = B at q0 q1 q2 q4 hBs ⊢
  have Sof : Hid (∀ w', Below W.heap.size W w' → (w'.cell? ⟨B, 0, none⟩ = some (.slice a xs.length ca) ∧ w'.cell? ⟨B, 2, none⟩ = some (.slice c zs.length cc))) := fun w' h => ⟨(h.cell (p := ⟨B, 0, none⟩) (by show B < W.heap.size; omega)).trans q0, (h.cell (p := ⟨B, 2, none⟩) (by show B < W.heap.size; omega)).trans q2⟩
  have Cof : Hid (∀ w', Below W.heap.size W w' → ∀ j, j < 4 → w'.cell? ⟨B + 1, j, none⟩ = some (.int .u8 ([n0, n1, n2, n3][j]?.getD 0))) := fun w' h j hj => (h.cell (p := ⟨B + 1, j, none⟩) (by show B + 1 < W.heap.size; omega)).trans (q4 j hj)
  obtain ⟨cs, hcse⟩ : ∃ cs, Hid (cs = [n0, n1, n2, n3]) := ⟨_, rfl⟩
  rw [← hcse.out] at Cof hcs
  have hc4 : cs.length = 4 := by rw [hcse.out]; rfl
  clear q0 q1 q2 q4 hcse
  go_loopw [6, 7] (fun v i wr => ∃ k : Nat, k ≤ 4 ∧ i = .int .i64 k ∧ wr.ownsRow W.heap.size 5 1 v k ((cs.take k).map (Value.int .u8)) ∧ Below W.heap.size W wr) (fun _ i _ => 4 - (intOf i).toNat)
  case atStart => exact ⟨0, Nat.zero_le _, rfl, World.ownsRow_nil _ _ _ _, Below.refl _ _⟩
  case round =>
    obtain ⟨k, hk, rfl, hrow, hB⟩ := hrel
    have hs := hB.size
    by_cases hlt : k < 4
    · have hcell := Cof.out wr hB k (by omega)
      have hgb : 0 ≤ cs[k]?.getD 0 ∧ cs[k]?.getD 0 < 256 := hcs _ (by simp [show k < cs.length from by omega])
      have htk : cs.take (k + 1) = cs.take k ++ [cs[k]?.getD 0] := by
        rw [List.take_add_one, List.getElem?_eq_getElem (show k < cs.length from by omega)]
        rfl
      generalize cs[k]?.getD 0 = X at hcell hgb htk
      go_wp2_with (at_builtin; go_must (refine wpList_append_bts _ rfl (.tmp 34) (.tmp 38) rfl W.heap.size (wr.alloc (.cells #[.int .u8 X] 5)).heap.size _ _ _ (cs.take k) [X] rfl rfl (hrow.alloc _) (lit_bts wr X hgb) (by simp; omega) (by simp; omega) ?_); intro v4 w4 hr4 hg4)
      go_roundw
      case rel =>
        refine ⟨k + 1, by omega, by go_num, by rw [htk]; exact hr4, (hB.alloc hs _).grown hg4 (by simp; omega) (fun k e => (hrow.lt k e).1)⟩
      case measure => simp [intOf]; omega
    · obtain rfl : k = 4 := by omega
      have hcl : (cs.take 4).length = 4 := by rw [List.length_take]; omega
      have bcs : ∀ z ∈ cs.take 4, 0 ≤ z ∧ z < 256 := fun z hz => hcs z (List.mem_of_mem_take hz)
      have bc := Bts.of_own hrow bcs
      generalize cs.take 4 = ds at hcl bcs bc
      clear hrow hcs Cof
      go_wp2_with fail
      have by1 := (by'.below hB).mono hs
      have bx1 := (bx.below hB).mono hs
      have bz1 := (bz.below hB).mono hs
      have Sof1 : Hid (∀ w', Below wr.heap.size wr w' → (w'.cell? ⟨B, 0, none⟩ = some (.slice a xs.length ca) ∧ w'.cell? ⟨B, 2, none⟩ = some (.slice c zs.length cc))) := fun w' h => Sof.out w' (hB.trans (h.mono hs))
      obtain ⟨p0, p2⟩ := Sof.out wr hB
      go_region_held3 (fun w' => w'.cell? ⟨B, 0, none⟩ = some (.slice a xs.length ca) ∧ w'.cell? ⟨B, 2, none⟩ = some (.slice c zs.length cc))
        (first | go_keep | exact Sof1.out _ hB3 | exact Sof1.out _ hB2 | exact Sof1.out _ hB1)
        (first
          | (refine step_append_bytes (by rfl) _ _ (by rfl) _ _ (by rfl) (by rfl) wr.heap.size wr.heap.size 0 [] xs ((lit_none wr _ (Nat.le_refl _)).drew) (bx1.below (((Below.refl _ wr).alloc (Nat.le_refl _) _).drew)) (by omega) (by simp) ?_; intro v1 w1 hr1 hg1; have hB1 : Below wr.heap.size wr w1 := (((Below.refl _ wr).alloc (Nat.le_refl _) _).drew).grown hg1 (by simp) (fun k e => by cases e; exact Nat.le_refl _))
          | (refine step_append_bytes (by rfl) _ _ (by rfl) _ _ (by rfl) (by rfl) wr.heap.size wr.heap.size _ _ (ys.take 4) hr1 (by1.below hB1) (by simp; omega) hB1.size ?_; intro v2 w2 hr2 hg2; have hB2 : Below wr.heap.size wr w2 := hB1.grown hg2 hB1.size (fun k e => (hr1.lt k e).1))
          | (refine step_append_bytes (by rfl) _ _ (by rfl) _ _ (by rfl) (by rfl) wr.heap.size wr.heap.size _ _ zs hr2 (bz1.below hB2) (by simp; omega) hB2.size ?_; intro v3 w3 hr3 hg3; have hB3 : Below wr.heap.size wr w3 := hB2.grown hg3 hB2.size (fun k e => (hr2.lt k e).1)))
      have bX := Bts.of_own hr3 (by
        intro z hz'
        simp only [List.nil_append, List.mem_append] at hz'
        rcases hz' with (h | h) | h
        · exact hx.2 z h
        · exact by0.2 z h
        · exact hz.2 z h)
      rw [List.nil_append] at bX
      clear hr1 hg1 hB1 hr2 hg2 hB2 hr3 hg3
      have by2 := (by1.below hB3).mono hB3.size
      have bx2 := (bx1.below hB3).mono hB3.size
      have bz2 := (bz1.below hB3).mono hB3.size
      have bc2 := (bc.below hB3).mono hB3.size
      have Sof2 : Hid (∀ w', Below w3.heap.size w3 w' → (w'.cell? ⟨B, 0, none⟩ = some (.slice a xs.length ca) ∧ w'.cell? ⟨B, 2, none⟩ = some (.slice c zs.length cc))) := fun w' h => Sof1.out w' (hB3.trans (h.mono hB3.size))
      obtain ⟨p0, p2⟩ := Sof1.out w3 hB3
      go_wp2_with fail
      go_region_held3 (fun w' => w'.cell? ⟨B, 0, none⟩ = some (.slice a xs.length ca) ∧ w'.cell? ⟨B, 2, none⟩ = some (.slice c zs.length cc))
        (first | go_keep | exact Sof2.out _ hB6 | exact Sof2.out _ hB5 | exact Sof2.out _ hB4)
        (first
          | (refine step_append_bytes (by rfl) _ _ (by rfl) _ _ (by rfl) (by rfl) w3.heap.size w3.heap.size 0 [] xs ((lit_none w3 _ (Nat.le_refl _)).drew) (bx2.below (((Below.refl _ w3).alloc (Nat.le_refl _) _).drew)) (by omega) (by simp) ?_; intro v4 w4 hr4 hg4; have hB4 : Below w3.heap.size w3 w4 := (((Below.refl _ w3).alloc (Nat.le_refl _) _).drew).grown hg4 (by simp) (fun k e => by cases e; exact Nat.le_refl _))
          | (refine step_append_bytes (by rfl) _ _ (by rfl) _ _ (by rfl) (by rfl) w3.heap.size w3.heap.size _ _ ds hr4 (bc2.below hB4) (by simp; omega) hB4.size ?_; intro v5 w5 hr5 hg5; have hB5 : Below w3.heap.size w3 w5 := hB4.grown hg5 hB4.size (fun k e => (hr4.lt k e).1))
          | (refine step_append_bytes (by rfl) _ _ (by rfl) _ _ (by rfl) (by rfl) w3.heap.size w3.heap.size _ _ zs hr5 (bz2.below hB5) (by simp; omega) hB5.size ?_; intro v6 w6 hr6 hg6; have hB6 : Below w3.heap.size w3 w6 := hB5.grown hg6 hB5.size (fun k e => (hr5.lt k e).1)))
      have bY := Bts.of_own hr6 (by
        intro z hz'
        simp only [List.nil_append, List.mem_append] at hz'
        rcases hz' with (h | h) | h
        · exact hx.2 z h
        · exact bcs z h
        · exact hz.2 z h)
      rw [List.nil_append] at bY
      clear hr4 hg4 hB4 hr5 hg5 hB5 hr6 hg6
      go_wp2_with fail
      have bX3 := (bX.below hB6).mono hB6.size
      have by3 := (by2.below hB6).mono hB6.size
      have bc3 := (bc2.below hB6).mono hB6.size
      obtain ⟨D1, HD1⟩ : ∃ D, Hid (D = U (sum (bts (xs ++ (ys.take 4) ++ zs)))) := ⟨_, rfl⟩
      obtain ⟨D2, HD2⟩ : ∃ D, Hid (D = U (sum (bts (xs ++ ds ++ zs)))) := ⟨_, rfl⟩
      obtain ⟨A1, HA1⟩ : ∃ A, Hid (strOfNums (ys.take 4) = A) := ⟨_, rfl⟩
      obtain ⟨A2, HA2⟩ : ∃ A, Hid (strOfNums ds = A) := ⟨_, rfl⟩
      obtain ⟨E, hE1, hE2⟩ : ∃ E, (D1 == D2) = E ∧ (A1.toList == A2.toList) = E := ⟨decide ((ys.take 4) = ds), by rw [HD1.out, HD2.out]; exact burst_sums xs (ys.take 4) ds zs by0.2 bcs (by rw [hcl]; exact hyl) (by rw [hyl]; decide), by rw [← HA1.out, ← HA2.out]; exact str_eq by0.2 bcs⟩
      have k1 := lat_sum bX3 HD1
      have k2 := lat_sum bY HD2
      have k3 := lat_conv by3 HA1
      have k4 := lat_conv bc3 HA2
      haveI := lat_nonempty w6
      refine wp_region_lat (by kernel_rfl) (by kernel_rfl) ?_
      go_big_quiet_step ((go_at_call 8; exact lat_alive _))
      repeat (go_big_quiet_step (fail))
      go_big_quiet_step ((go_at_call 10; exact k1 _))
      repeat (go_big_quiet_step (fail))
      go_big_quiet_step ((go_at_call 10; exact k2 _))
      repeat (go_big_quiet_step (fail))
      refine wpQuiet_nil ?_
      intro _ hw'
      obtain ⟨p, hw''⟩ := hw'
      subst hw''
      go_wp2
      go_ret
      exact ⟨rfl, hB0.trans ((hB.trans ((hB3.trans ((hB6.trans (p.h.mono hB6.size)).mono hB3.size)).mono hs)).mono hB0.size)⟩

set_option maxRecDepth 100000 in
set_option maxHeartbeats 4000000 in
theorem burst_short (a b c : Option Addr) (la lb lc ca cb cc : Nat) (n0 n1 n2 n3 : Int) (xs ys zs : List Int) (w : World)
    (hx : Bts w.heap.size w (.slice a la ca) xs) (hy : Bts w.heap.size w (.slice b lb cb) ys) (hz : Bts w.heap.size w (.slice c lc cc) zs)
    (b0 : 0 ≤ n0 ∧ n0 < 256) (b1 : 0 ≤ n1 ∧ n1 < 256) (b2 : 0 ≤ n2 ∧ n2 < 256) (b3 : 0 ≤ n3 ∧ n3 < 256)
    (h1 : decide (3000 < (la : Int)) = false) (h2 : decide (3000 < (lc : Int)) = false) (h4 : decide (4 < (lb : Int)) = false) :
    Calls Try.prog 5 #[.agg #[.slice a la ca, .slice b lb cb, .slice c lc cc], .agg #[.int .u8 n0, .int .u8 n1, .int .u8 n2, .int .u8 n3]] w fun e w' => e = .returned (.bool true) ∧ Below w.heap.size w w' := by
  obtain rfl := hx.len
  obtain rfl := hz.len
  obtain rfl := hy.len
  have by0 := hy
  have hl4 : ys.length ≤ 4 := by simp at h4; omega
  have m1 : xs.length ≤ 3000 := by simp at h1; omega
  have m3 : zs.length ≤ 3000 := by simp at h2; omega
  have hcs : ∀ z ∈ [n0, n1, n2, n3], 0 ≤ z ∧ z < 256 := by
    intro z hz
    simp only [List.mem_cons, List.not_mem_nil, or_false] at hz
    rcases hz with rfl | rfl | rfl | rfl <;> assumption
  go_enter Try.func5, Try.ntmps5
  go_wp2
  obtain ⟨W, hW, hB0, hBs, q0, q1, q2, q4⟩ := boxes w (.slice a xs.length ca) (.slice b ys.length cb) (.slice c zs.length cc) n0 n1 n2 n3
  rw [← hW]
  clear hW
  have bx := (hx.below hB0).mono hB0.size
  have by' := (by0.below hB0).mono hB0.size
  have bz := (hz.below hB0).mono hB0.size
  generalize w.heap.size = B at q0 q1 q2 q4 hBs ⊢
  have Sof : Hid (∀ w', Below W.heap.size W w' → (w'.cell? ⟨B, 0, none⟩ = some (.slice a xs.length ca) ∧ w'.cell? ⟨B, 2, none⟩ = some (.slice c zs.length cc))) := fun w' h => ⟨(h.cell (p := ⟨B, 0, none⟩) (by show B < W.heap.size; omega)).trans q0, (h.cell (p := ⟨B, 2, none⟩) (by show B < W.heap.size; omega)).trans q2⟩
  have Cof : Hid (∀ w', Below W.heap.size W w' → ∀ j, j < 4 → w'.cell? ⟨B + 1, j, none⟩ = some (.int .u8 ([n0, n1, n2, n3][j]?.getD 0))) := fun w' h j hj => (h.cell (p := ⟨B + 1, j, none⟩) (by show B + 1 < W.heap.size; omega)).trans (q4 j hj)
  obtain ⟨cs, hcse⟩ : ∃ cs, Hid (cs = [n0, n1, n2, n3]) := ⟨_, rfl⟩
  rw [← hcse.out] at Cof hcs
  have hc4 : cs.length = 4 := by rw [hcse.out]; rfl
  clear q0 q1 q2 q4 hcse
  go_loopw [6, 7] (fun v i wr => ∃ k : Nat, k ≤ ys.length ∧ i = .int .i64 k ∧ wr.ownsRow W.heap.size 5 1 v k ((cs.take k).map (Value.int .u8)) ∧ Below W.heap.size W wr) (fun _ i _ => ys.length - (intOf i).toNat)
  case atStart => exact ⟨0, Nat.zero_le _, rfl, World.ownsRow_nil _ _ _ _, Below.refl _ _⟩
  case round =>
    obtain ⟨k, hk, rfl, hrow, hB⟩ := hrel
    have hs := hB.size
    by_cases hlt : k < ys.length
    · have hcell := Cof.out wr hB k (by omega)
      have hgb : 0 ≤ cs[k]?.getD 0 ∧ cs[k]?.getD 0 < 256 := hcs _ (by simp [show k < cs.length from by omega])
      have htk : cs.take (k + 1) = cs.take k ++ [cs[k]?.getD 0] := by
        rw [List.take_add_one, List.getElem?_eq_getElem (show k < cs.length from by omega)]
        rfl
      generalize cs[k]?.getD 0 = X at hcell hgb htk
      go_wp2_with (at_builtin; go_must (refine wpList_append_bts _ rfl (.tmp 34) (.tmp 38) rfl W.heap.size (wr.alloc (.cells #[.int .u8 X] 5)).heap.size _ _ _ (cs.take k) [X] rfl rfl (hrow.alloc _) (lit_bts wr X hgb) (by simp; omega) (by simp; omega) ?_); intro v4 w4 hr4 hg4)
      go_roundw
      case rel =>
        refine ⟨k + 1, by omega, by go_num, by rw [htk]; exact hr4, (hB.alloc hs _).grown hg4 (by simp; omega) (fun k e => (hrow.lt k e).1)⟩
      case measure => simp [intOf]; omega
    · obtain rfl : k = ys.length := by omega
      have hcl : (cs.take ys.length).length = ys.length := by rw [List.length_take]; omega
      have bcs : ∀ z ∈ cs.take ys.length, 0 ≤ z ∧ z < 256 := fun z hz => hcs z (List.mem_of_mem_take hz)
      have bc := Bts.of_own hrow bcs
      generalize cs.take ys.length = ds at hcl bcs bc
      clear hrow hcs Cof
      go_wp2_with fail
      have by1 := (by'.below hB).mono hs
      have bx1 := (bx.below hB).mono hs
      have bz1 := (bz.below hB).mono hs
      have Sof1 : Hid (∀ w', Below wr.heap.size wr w' → (w'.cell? ⟨B, 0, none⟩ = some (.slice a xs.length ca) ∧ w'.cell? ⟨B, 2, none⟩ = some (.slice c zs.length cc))) := fun w' h => Sof.out w' (hB.trans (h.mono hs))
      obtain ⟨p0, p2⟩ := Sof.out wr hB
      go_region_held3 (fun w' => w'.cell? ⟨B, 0, none⟩ = some (.slice a xs.length ca) ∧ w'.cell? ⟨B, 2, none⟩ = some (.slice c zs.length cc))
        (first | go_keep | exact Sof1.out _ hB3 | exact Sof1.out _ hB2 | exact Sof1.out _ hB1)
        (first
          | (refine step_append_bytes (by rfl) _ _ (by rfl) _ _ (by rfl) (by rfl) wr.heap.size wr.heap.size 0 [] xs ((lit_none wr _ (Nat.le_refl _)).drew) (bx1.below (((Below.refl _ wr).alloc (Nat.le_refl _) _).drew)) (by omega) (by simp) ?_; intro v1 w1 hr1 hg1; have hB1 : Below wr.heap.size wr w1 := (((Below.refl _ wr).alloc (Nat.le_refl _) _).drew).grown hg1 (by simp) (fun k e => by cases e; exact Nat.le_refl _))
          | (refine step_append_bytes (by rfl) _ _ (by rfl) _ _ (by rfl) (by rfl) wr.heap.size wr.heap.size _ _ ys hr1 (by1.below hB1) (by simp; omega) hB1.size ?_; intro v2 w2 hr2 hg2; have hB2 : Below wr.heap.size wr w2 := hB1.grown hg2 hB1.size (fun k e => (hr1.lt k e).1))
          | (refine step_append_bytes (by rfl) _ _ (by rfl) _ _ (by rfl) (by rfl) wr.heap.size wr.heap.size _ _ zs hr2 (bz1.below hB2) (by simp; omega) hB2.size ?_; intro v3 w3 hr3 hg3; have hB3 : Below wr.heap.size wr w3 := hB2.grown hg3 hB2.size (fun k e => (hr2.lt k e).1)))
      have bX := Bts.of_own hr3 (by
        intro z hz'
        simp only [List.nil_append, List.mem_append] at hz'
        rcases hz' with (h | h) | h
        · exact hx.2 z h
        · exact by0.2 z h
        · exact hz.2 z h)
      rw [List.nil_append] at bX
      clear hr1 hg1 hB1 hr2 hg2 hB2 hr3 hg3
      have by2 := (by1.below hB3).mono hB3.size
      have bx2 := (bx1.below hB3).mono hB3.size
      have bz2 := (bz1.below hB3).mono hB3.size
      have bc2 := (bc.below hB3).mono hB3.size
      have Sof2 : Hid (∀ w', Below w3.heap.size w3 w' → (w'.cell? ⟨B, 0, none⟩ = some (.slice a xs.length ca) ∧ w'.cell? ⟨B, 2, none⟩ = some (.slice c zs.length cc))) := fun w' h => Sof1.out w' (hB3.trans (h.mono hB3.size))
      obtain ⟨p0, p2⟩ := Sof1.out w3 hB3
      go_wp2_with fail
      go_region_held3 (fun w' => w'.cell? ⟨B, 0, none⟩ = some (.slice a xs.length ca) ∧ w'.cell? ⟨B, 2, none⟩ = some (.slice c zs.length cc))
        (first | go_keep | exact Sof2.out _ hB6 | exact Sof2.out _ hB5 | exact Sof2.out _ hB4)
        (first
          | (refine step_append_bytes (by rfl) _ _ (by rfl) _ _ (by rfl) (by rfl) w3.heap.size w3.heap.size 0 [] xs ((lit_none w3 _ (Nat.le_refl _)).drew) (bx2.below (((Below.refl _ w3).alloc (Nat.le_refl _) _).drew)) (by omega) (by simp) ?_; intro v4 w4 hr4 hg4; have hB4 : Below w3.heap.size w3 w4 := (((Below.refl _ w3).alloc (Nat.le_refl _) _).drew).grown hg4 (by simp) (fun k e => by cases e; exact Nat.le_refl _))
          | (refine step_append_bytes (by rfl) _ _ (by rfl) _ _ (by rfl) (by rfl) w3.heap.size w3.heap.size _ _ ds hr4 (bc2.below hB4) (by simp; omega) hB4.size ?_; intro v5 w5 hr5 hg5; have hB5 : Below w3.heap.size w3 w5 := hB4.grown hg5 hB4.size (fun k e => (hr4.lt k e).1))
          | (refine step_append_bytes (by rfl) _ _ (by rfl) _ _ (by rfl) (by rfl) w3.heap.size w3.heap.size _ _ zs hr5 (bz2.below hB5) (by simp; omega) hB5.size ?_; intro v6 w6 hr6 hg6; have hB6 : Below w3.heap.size w3 w6 := hB5.grown hg6 hB5.size (fun k e => (hr5.lt k e).1)))
      have bY := Bts.of_own hr6 (by
        intro z hz'
        simp only [List.nil_append, List.mem_append] at hz'
        rcases hz' with (h | h) | h
        · exact hx.2 z h
        · exact bcs z h
        · exact hz.2 z h)
      rw [List.nil_append] at bY
      clear hr4 hg4 hB4 hr5 hg5 hB5 hr6 hg6
      go_wp2_with fail
      have bX3 := (bX.below hB6).mono hB6.size
      have by3 := (by2.below hB6).mono hB6.size
      have bc3 := (bc2.below hB6).mono hB6.size
      obtain ⟨D1, HD1⟩ : ∃ D, Hid (D = U (sum (bts (xs ++ ys ++ zs)))) := ⟨_, rfl⟩
      obtain ⟨D2, HD2⟩ : ∃ D, Hid (D = U (sum (bts (xs ++ ds ++ zs)))) := ⟨_, rfl⟩
      obtain ⟨A1, HA1⟩ : ∃ A, Hid (strOfNums ys = A) := ⟨_, rfl⟩
      obtain ⟨A2, HA2⟩ : ∃ A, Hid (strOfNums ds = A) := ⟨_, rfl⟩
      obtain ⟨E, hE1, hE2⟩ : ∃ E, (D1 == D2) = E ∧ (A1.toList == A2.toList) = E := ⟨decide (ys = ds), by rw [HD1.out, HD2.out]; exact burst_sums xs ys ds zs by0.2 bcs (by rw [hcl]) (by omega), by rw [← HA1.out, ← HA2.out]; exact str_eq by0.2 bcs⟩
      have k1 := lat_sum bX3 HD1
      have k2 := lat_sum bY HD2
      have k3 := lat_conv by3 HA1
      have k4 := lat_conv bc3 HA2
      haveI := lat_nonempty w6
      refine wp_region_lat (by kernel_rfl) (by kernel_rfl) ?_
      go_big_quiet_step ((go_at_call 8; exact lat_alive _))
      repeat (go_big_quiet_step (fail))
      go_big_quiet_step ((go_at_call 10; exact k1 _))
      repeat (go_big_quiet_step (fail))
      go_big_quiet_step ((go_at_call 10; exact k2 _))
      repeat (go_big_quiet_step (fail))
      refine wpQuiet_nil ?_
      intro _ hw'
      obtain ⟨p, hw''⟩ := hw'
      subst hw''
      go_wp2
      go_ret
      exact ⟨rfl, hB0.trans ((hB.trans ((hB3.trans ((hB6.trans (p.h.mono hB6.size)).mono hB3.size)).mono hs)).mono hB0.size)⟩
theorem burst_walk (a b c : Option Addr) (la lb lc ca cb cc : Nat) (n0 n1 n2 n3 : Int) (xs ys zs : List Int) (w : World)
    (hx : Bts w.heap.size w (.slice a la ca) xs) (hy : Bts w.heap.size w (.slice b lb cb) ys) (hz : Bts w.heap.size w (.slice c lc cc) zs)
    (b0 : 0 ≤ n0 ∧ n0 < 256) (b1 : 0 ≤ n1 ∧ n1 < 256) (b2 : 0 ≤ n2 ∧ n2 < 256) (b3 : 0 ≤ n3 ∧ n3 < 256) :
    Calls Try.prog 5 #[.agg #[.slice a la ca, .slice b lb cb, .slice c lc cc], .agg #[.int .u8 n0, .int .u8 n1, .int .u8 n2, .int .u8 n3]] w fun e w' => e = .returned (.bool true) ∧ Below w.heap.size w w' := by
  by_cases c1 : 3000 < (la : Int)
  · exact burst_out a b c la lb lc ca cb cc n0 n1 n2 n3 w (.inl (by simpa using c1))
  · by_cases c2 : 3000 < (lc : Int)
    · exact burst_out a b c la lb lc ca cb cc n0 n1 n2 n3 w (.inr ⟨by simpa using c1, by simpa using c2⟩)
    · by_cases c3 : 4 < (lb : Int)
      · exact burst_long a b c la lb lc ca cb cc n0 n1 n2 n3 xs ys zs w hx hy hz b0 b1 b2 b3 (by simpa using c1) (by simpa using c2) (by simpa using c3)
      · exact burst_short a b c la lb lc ca cb cc n0 n1 n2 n3 xs ys zs w hx hy hz b0 b1 b2 b3 (by simpa using c1) (by simpa using c2) (by simpa using c3)
end Go.Proofs.Ytdokhiikglcpcaa
