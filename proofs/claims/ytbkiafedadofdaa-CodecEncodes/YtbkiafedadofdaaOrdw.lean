/- The walk of the law CodecOrder: whatever the two numbers, it answers true, and nothing that lay in memory has turned. -/
import Derived.Test.YtbkiafedadofdaaLive
namespace Go.Proofs.Ytbkiafedadofdaa
open Go.RowKit Go.Shelf Plain Go.IntWalk
set_option linter.unusedVariables false

/-- 'append(b, xs...)', b the call's own bytes, xs whatever bytes can be read. -/
theorem wpList_append_bts (w : World) {ops : Array Oper} {rest : List Oper} {o : Oper} {a : Act} {Q : Exit → Act → World → Prop}
    (hg : o.guard = none) (s x : Operand) (hop : o.op = Op.call { callee := Callee.builtin Builtin.append, args := #[s, x], argTypes := #[23, 23] })
    (base n₀ : Nat) (v sv : Value) (k : Nat) (xs zs : List Int) (hs : a.eval s = v) (hx : a.eval x = sv) (hown : w.ownsRow base 5 1 v k (xs.map (Value.int .u8))) (hz : Bts n₀ w sv zs)
    (b1 : k + zs.length ≤ 140737488355328) (b3 : base ≤ w.heap.size)
    (hK : ∀ v' w', w'.ownsRow base 5 1 v' (k + zs.length) ((xs ++ zs).map (Value.int .u8)) → w.grownBy w' v.ownBlock → wpList Try.prog ops Q rest (a.put o.dst v') w') :
    wpList Try.prog ops Q (o :: rest) a w := by
  obtain ⟨i0, hi, hz0, hz1, hz2⟩ := info_parts Try.info5
  obtain ⟨⟨rfl | ⟨ad, cap, rfl⟩, rfl⟩ | ⟨b, off, cap, rfl, hb, hl, hm, hc⟩, hzz⟩ := hz
  · refine wpList_plain hg fun K hK' => ?_
    have hrun := run_append_owned_none (P := Try.prog) (w := w) base 23 o.type 5 i0 1 Try.underlying23 hi v k _ hown
    unfold Oper.wp
    simp [execOp, hop, resolve, invoke, builtin, hs, hx, hrun, Result.andThen]
    exact hK' _ _ (hK v w (by simpa using hown) ⟨rfl, rfl, rfl, Nat.le_refl _, fun _ _ _ => rfl⟩)
  · refine wpList_append_own w hg s x 23 hop base 5 i0 (.int .u8 0) 1 1 Try.underlying23 hi hz0 hz1 hz2 rfl (by decide) v k _ hs hown ad 0 cap [] hx (by simp) (fun j u hj => by simp at hj) (fun u hu => by cases hu) (by unfold maxLen; simp at b1; omega) (by simp at b1; omega) b3 ?_
    intro v' w' h1 h2 _
    exact hK v' w' (by simpa using h1) h2
  · refine wpList_append_own w hg s x 23 hop base 5 i0 (.int .u8 0) 1 1 Try.underlying23 hi hz0 hz1 hz2 rfl (by decide) v k _ hs hown ⟨b, off, none⟩ zs.length cap (zs.map (Value.int .u8)) hx (by simp) ?_ ?_ (by unfold maxLen; omega) (by omega) b3 ?_
    · intro j u hj
      have hadd : (⟨b, off, none⟩ : Addr).add j = ⟨b, off + j, none⟩ := by unfold Addr.add; split <;> simp_all
      have hjl : j < zs.length := by
        rcases Nat.lt_or_ge j zs.length with h | h
        · exact h
        · rw [List.getElem?_map, List.getElem?_eq_none h] at hj; cases hj
      rw [hadd, hc j hjl, List.getElem?_eq_getElem hjl]
      rw [List.getElem?_map, List.getElem?_eq_getElem hjl] at hj
      exact hj
    · intro u hu
      obtain ⟨z, _, rfl⟩ := List.mem_map.1 hu
      rfl
    · intro v' w' h1 h2 _
      exact hK v' w' (by rw [List.map_append]; exact h1) h2

theorem str_toList (l : List Int) : (strOfNums l).toList = u8s l := ByteArray.toList_eq _
theorem str_eq {l m : List Int} (hl : ∀ z ∈ l, 0 ≤ z ∧ z < 256) (hm : ∀ z ∈ m, 0 ≤ z ∧ z < 256) : ((strOfNums l).toList == (strOfNums m).toList) = decide (l = m) := by
  rw [str_toList, str_toList, Bool.eq_iff_iff]
  simp only [beq_iff_eq, decide_eq_true_eq]
  exact ⟨u8s_inj hl hm, fun h => by rw [h]⟩
theorem str_less {n m : Nat} (h : nb n = nb m) : Op.bytesLess (strOfNums (enc n)).toList (strOfNums (enc m)).toList = decide (n < m) := by
  rw [str_toList, str_toList, less_enc h]

theorem lit1 (W : World) (base : Nat) (hb : base ≤ W.heap.size) : (W.alloc (.cells #[.int .u8 0] 5)).ownsRow base 5 1 (.slice (some ⟨W.heap.size, 0, none⟩) 1 1) 1 (([0] : List Int).map (Value.int .u8)) :=
  World.ownsRow_lit W #[.int .u8 0] 1 hb (by unfold maxLen; omega) rfl

set_option maxRecDepth 100000 in
set_option maxHeartbeats 2000000 in
theorem order_core (n m : Int) (w : World) (h0 : 0 ≤ n) (h1 : 0 ≤ m) (hn : Hid (n < 18446744073709551616)) (hm : Hid (m < 18446744073709551616)) (kn km : Nat) (A B : ByteArray) (eq : Bool)
    (Hn : Hid (nb n.toNat = kn)) (Hm : Hid (nb m.toNat = km)) (HA : Hid (strOfNums (enc n.toNat) = A)) (HB : Hid (strOfNums (enc m.toNat) = B)) 
    (heq : (A.toList == B.toList) = eq) (hnm : (n == m) = eq)
    (hcase : ((kn : Int) < km ∧ decide (n < m) = true) ∨ ((km : Int) < kn ∧ decide (n < m) = false) ∨ (kn = km ∧ decide (n < m) = Op.bytesLess A.toList B.toList)) :
    Calls Try.prog 7 #[.int .u64 n, .int .u64 m] w fun e w' => e = .returned (.bool true) ∧ Below w.heap.size w w' := by
  have hk8 : kn ≤ 8 := by rw [← Hn.out]; exact nb_8 (by have := hn.out; omega)
  have hk8' : km ≤ 8 := by rw [← Hm.out]; exact nb_8 (by have := hm.out; omega)
  rcases hcase with ⟨hc1, hc2⟩ | ⟨hc1, hc2⟩ | ⟨rfl, hc2⟩
  all_goals
    go_enter Try.func7, Try.ntmps7
    go_wp2_with fail
    refine (bytes_any n w h0 hn.out).mono ?_
    rintro e w1 ⟨rfl, hr1, hB1⟩
    rw [Hn.out] at hr1 ⊢
    go_wp2_with fail
    refine (bytes_any m w1 h1 hm.out).mono ?_
    rintro e w2 ⟨rfl, hr2, hB2⟩
    rw [Hm.out] at hr2 ⊢
    have b1 := ((Bts.of_own hr1 (enc_byte _)).below hB2).mono hB2.size
    have b2 := Bts.of_own hr2 (enc_byte _)
    have hs1 := hB1.size
    have hs2 := hB2.size
    go_wp2_with fail
    refine (number_any _ _ _ b1).mono ?_
    rintro e w3 ⟨rfl, hw⟩
    subst hw
    rw [numV_enc _ (by have := hn.out; omega), numB_enc _ (by have := hn.out; omega), Int.toNat_of_nonneg h0]
    go_wp2_with (at_builtin; go_must (refine wpList_append_bts _ rfl (.tmp 22) (.tmp 23) rfl w2.heap.size w2.heap.size _ _ _ [0] _ rfl rfl (lit1 w2 _ (Nat.le_refl _)) (b1.below ((Below.refl _ _).alloc (Nat.le_refl _) _)) (by rw [enc_length, Hn.out]; omega) (by simp) ?_); intro v4 w4 hr4 hg4)
    have b4 := Bts.of_own hr4 (by intro z hz; rcases List.mem_append.1 hz with h | h; (simp at h; subst h; decide); exact enc_byte _ z h)
    have hB4 : Below w2.heap.size w2 w4 := ((Below.refl _ w2).alloc (Nat.le_refl _) _).grown hg4 (by simp) (fun k e => by cases e; exact Nat.le_refl _)
    go_wp2_with fail
    refine (number_any _ _ _ b4).mono ?_
    rintro e w5 ⟨rfl, hw⟩
    subst hw
    rw [show numB ([0] ++ enc n.toNat) = false from numB_cons _]
    have kA4 := run_conv (b1.below hB4)
    have kB4 := run_conv (b2.below hB4)
    rw [HA.out] at kA4
    rw [HB.out] at kB4
    go_wp2_with (go_at_call 10; go_must (refine (alive_any _).mono ?_); rintro e w6 ⟨rfl, hB6⟩; have kA6 := run_conv ((b1.below hB4).below (hB6.mono hB4.size)); have kB6 := run_conv ((b2.below hB4).below (hB6.mono hB4.size)); rw [HA.out] at kA6; rw [HB.out] at kB6)
    go_ret
    refine ⟨?_, hB1.trans (((hB2.trans (hB4.mono hB2.size)).trans (hB6.mono (Nat.le_trans hB2.size hB4.size))).mono hB1.size)⟩
    first | rfl | exact congrArg (fun b => Ending.returned (.bool b)) (by simp; omega)

theorem order_walk (n m : Int) (w : World) (h0 : 0 ≤ n) (h1 : 0 ≤ m) (hn : n < 18446744073709551616) (hm : m < 18446744073709551616) :
    Calls Try.prog 7 #[.int .u64 n, .int .u64 m] w fun e w' => e = .returned (.bool true) ∧ Below w.heap.size w w' := by
  refine order_core n m w h0 h1 hn hm _ _ _ _ _ rfl rfl rfl rfl (str_eq (enc_byte _) (enc_byte _)) ?_ ?_
  · rw [Bool.eq_iff_iff]
    simp only [beq_iff_eq, decide_eq_true_eq]
    exact ⟨fun h => by rw [h], fun h => by have := enc_inj h; omega⟩
  · rcases Nat.lt_trichotomy (nb n.toNat) (nb m.toNat) with c | c | c
    · refine .inl ⟨by omega, ?_⟩
      rcases (show n < m ∨ m ≤ n from by omega) with h | h
      · simpa using h
      · have := nb_mono (n := m.toNat) (m := n.toNat) (by omega); omega
    · refine .inr (.inr ⟨c, ?_⟩)
      rw [str_less c, Bool.eq_iff_iff]
      simp only [decide_eq_true_eq]
      omega
    · refine .inr (.inl ⟨by omega, ?_⟩)
      rcases (show n < m ∨ m ≤ n from by omega) with h | h
      · have := nb_mono (n := n.toNat) (m := m.toNat) (by omega); omega
      · simpa using h
end Go.Proofs.Ytbkiafedadofdaa
