/- Bytes that can be read, in the walks' words. -/
import Derived.WalkKit
import Derived.WalkSpells
import Derived.WalkLawsBesides
import Derived.Outline
import Derived.Laws.BytesArg
import Derived.Lib.SlBytesConst
import Derived.Lib.SmallJoins
import Derived.Test.YtmahpceokpajgaaDoorProg
namespace Go.Proofs.YtmahpceokpajgaaDoor.C
open Go.RowKit Go.IntWalk
set_option linter.unusedVariables false

theorem Tryd.info5 : (Tryd.prog.info? 5).map (fun i => (i.zero, i.size, i.bytes)) = some (some (.int .u8 0), 1, 1) := by kernel_rfl

/-- Digits as bytes. -/
def u8s (l : List Int) : List UInt8 := l.map fun n => UInt8.ofNat n.toNat
theorem u8_inj {a b : Int} (ha : 0 ≤ a ∧ a < 256) (hb : 0 ≤ b ∧ b < 256) (h : UInt8.ofNat a.toNat = UInt8.ofNat b.toNat) : a = b := by
  have := congrArg UInt8.toNat h
  simp at this
  omega
theorem u8_lt {a b : Int} (ha : 0 ≤ a ∧ a < 256) (hb : 0 ≤ b ∧ b < 256) : (UInt8.ofNat a.toNat < UInt8.ofNat b.toNat) ↔ a < b := by
  rw [UInt8.lt_iff_toNat_lt]
  simp
  omega
theorem u8s_inj : ∀ {l m : List Int}, (∀ z ∈ l, 0 ≤ z ∧ z < 256) → (∀ z ∈ m, 0 ≤ z ∧ z < 256) → u8s l = u8s m → l = m
  | [], [], _, _, _ => rfl
  | [], _ :: _, _, _, h => by simp [u8s] at h
  | _ :: _, [], _, _, h => by simp [u8s] at h
  | a :: l, b :: m, hl, hm, h => by
    simp only [u8s, List.map_cons, List.cons.injEq] at h
    rw [u8_inj (hl a (by simp)) (hm b (by simp)) h.1, u8s_inj (fun z hz => hl z (by simp [hz])) (fun z hz => hm z (by simp [hz])) h.2]

/-- The slice v holds the bytes zs, in a block below n₀; or it is nil or empty, and there are none. -/
def Bts (n₀ : Nat) (W : World) (v : Value) (zs : List Int) : Prop :=
  (((v = .slice none 0 0 ∨ ∃ ad cap, v = .slice (some ad) 0 cap) ∧ zs = []) ∨ ∃ b off cap, v = .slice (some ⟨b, off, none⟩) zs.length cap ∧ b < n₀ ∧ zs.length ≤ cap ∧ cap ≤ maxLen ∧ ∀ j, j < zs.length → W.cell? ⟨b, off + j, none⟩ = some (.int .u8 (zs[j]?.getD 0))) ∧ ∀ z ∈ zs, 0 ≤ z ∧ z < 256
theorem Bts.below {n₀ : Nat} {A B : World} (h : Below n₀ A B) {v : Value} {zs : List Int} : Bts n₀ A v zs → Bts n₀ B v zs
  | ⟨.inl e, hz⟩ => ⟨.inl e, hz⟩
  | ⟨.inr ⟨b, off, cap, e, hb, hl, hm, hc⟩, hz⟩ => ⟨.inr ⟨b, off, cap, e, hb, hl, hm, fun j hj => (h.cell (p := ⟨b, off + j, none⟩) hb).trans (hc j hj)⟩, hz⟩
theorem Bts.mono {n₀ n₁ : Nat} {A : World} {v : Value} {zs : List Int} (h : Bts n₀ A v zs) (hn : n₀ ≤ n₁) : Bts n₁ A v zs := by
  obtain ⟨e | ⟨b, off, cap, e, hb, r⟩, hz⟩ := h
  · exact ⟨.inl e, hz⟩
  · exact ⟨.inr ⟨b, off, cap, e, by omega, r⟩, hz⟩
/-- What the call itself made. -/
theorem Bts.of_own {W : World} {base : Nat} {v : Value} {zs : List Int} {k : Nat} (h : W.ownsRow base 5 1 v k (zs.map (Value.int .u8))) (hz : ∀ z ∈ zs, 0 ≤ z ∧ z < 256) : Bts W.heap.size W v zs := by
  have hk : zs.length = k := by simpa using h.1
  refine ⟨?_, hz⟩
  rcases h.2 with ⟨rfl, h0⟩ | ⟨g, cap, cur, rfl, hb, hg, hn, hm, hs, ht⟩
  · exact .inl ⟨.inl rfl, List.eq_nil_of_length_eq_zero (by omega)⟩
  · refine .inr ⟨g, 0, cap, by rw [hk], (Array.getElem?_eq_some_iff.1 hg).1, by omega, hm, fun j hj => ?_⟩
    have hc := h.cells (g := g) rfl j (.int .u8 (zs[j]?.getD 0)) (by simp [hj])
    have hadd : (⟨g, 0, none⟩ : Addr).add j = ⟨g, 0 + j, none⟩ := by unfold Addr.add; split <;> simp_all
    rwa [hadd] at hc

theorem madeCells_u8 (k : Nat) : (madeCells (Value.int IntKind.u8 0).cells (k * 1)).toList = List.replicate k (Value.int .u8 0) := by
  rw [Nat.mul_one]; exact toList_madeCells_one _ _
theorem Bts.len {n₀ : Nat} {A : World} {a : Option Addr} {l c : Nat} {zs : List Int} (k : Bts n₀ A (.slice a l c) zs) : l = zs.length := by
  obtain ⟨⟨e | ⟨ad, cap, e⟩, h⟩ | ⟨b, off, cap, e, _⟩, _⟩ := k
  · simp at e; simp [h, e]
  · simp at e; simp [h, e]
  · simp at e; exact e.2.1

/-- 'append(b, xs...)', b the call's own bytes, xs whatever bytes can be read. -/
theorem wpList_append_bts (w : World) {ops : Array Oper} {rest : List Oper} {o : Oper} {a : Act} {Q : Exit → Act → World → Prop}
    (hg : o.guard = none) (s x : Operand) (hop : o.op = Op.call { callee := Callee.builtin Builtin.append, args := #[s, x], argTypes := #[23, 23] })
    (base n₀ : Nat) (v sv : Value) (k : Nat) (xs zs : List Int) (hs : a.eval s = v) (hx : a.eval x = sv) (hown : w.ownsRow base 5 1 v k (xs.map (Value.int .u8))) (hz : Bts n₀ w sv zs)
    (b1 : k + zs.length ≤ 140737488355328) (b3 : base ≤ w.heap.size)
    (hK : ∀ v' w', w'.ownsRow base 5 1 v' (k + zs.length) ((xs ++ zs).map (Value.int .u8)) → w.grownBy w' v.ownBlock → wpList Tryd.prog ops Q rest (a.put o.dst v') w') :
    wpList Tryd.prog ops Q (o :: rest) a w := by
  obtain ⟨i0, hi, hz0, hz1, hz2⟩ := info_parts Tryd.info5
  obtain ⟨⟨rfl | ⟨ad, cap, rfl⟩, rfl⟩ | ⟨b, off, cap, rfl, hb, hl, hm, hc⟩, hzz⟩ := hz
  · refine wpList_plain hg fun K hK' => ?_
    have hrun := run_append_owned_none (P := Tryd.prog) (w := w) base 23 o.type 5 i0 1 Tryd.underlying23 hi v k _ hown
    unfold Oper.wp
    simp [execOp, hop, resolve, invoke, builtin, hs, hx, hrun, Result.andThen]
    exact hK' _ _ (hK v w (by simpa using hown) ⟨rfl, rfl, rfl, Nat.le_refl _, fun _ _ _ => rfl⟩)
  · refine wpList_append_own w hg s x 23 hop base 5 i0 (.int .u8 0) 1 1 Tryd.underlying23 hi hz0 hz1 hz2 rfl (by decide) v k _ hs hown ad 0 cap [] hx (by simp) (fun j u hj => by simp at hj) (fun u hu => by cases hu) (by unfold maxLen; simp at b1; omega) (by simp at b1; omega) b3 ?_
    intro v' w' h1 h2 _
    exact hK v' w' (by simpa using h1) h2
  · refine wpList_append_own w hg s x 23 hop base 5 i0 (.int .u8 0) 1 1 Tryd.underlying23 hi hz0 hz1 hz2 rfl (by decide) v k _ hs hown ⟨b, off, none⟩ zs.length cap (zs.map (Value.int .u8)) hx (by simp) ?_ ?_ (by unfold maxLen; omega) (by omega) b3 ?_
    · intro j u hj
      have hadd : (⟨b, off, none⟩ : Addr).add j = ⟨b, off + j, none⟩ := by unfold Addr.add; split <;> simp_all
      have hjl : j < zs.length := by
        rcases Nat.lt_or_ge j zs.length with h | h
        · exact h
        · rw [List.getElem?_map, List.getElem?_eq_none h] at hj; cases hj
      rw [hadd, hc j hjl, List.getElem?_eq_getElem hjl]
      rw [List.getElem?_map, List.getElem?_eq_getElem hjl] at hj
      exact hj
    · intro u hu
      obtain ⟨z, _, rfl⟩ := List.mem_map.1 hu
      rfl
    · intro v' w' h1 h2 _
      exact hK v' w' (by rw [List.map_append]; exact h1) h2

theorem str_toList (l : List Int) : (strOfNums l).toList = u8s l := ByteArray.toList_eq _
theorem str_eq {l m : List Int} (hl : ∀ z ∈ l, 0 ≤ z ∧ z < 256) (hm : ∀ z ∈ m, 0 ≤ z ∧ z < 256) : ((strOfNums l).toList == (strOfNums m).toList) = decide (l = m) := by
  rw [str_toList, str_toList, Bool.eq_iff_iff]
  simp only [beq_iff_eq, decide_eq_true_eq]
  exact ⟨u8s_inj hl hm, fun h => by rw [h]⟩
/-- 'string(b)'. -/
theorem run_conv {n₀ : Nat} {W : World} {v : Value} {zs : List Int} (h : Bts n₀ W v zs) : (convert 23 9 v).run Tryd.prog W = .ok (.string (strOfNums zs)) W := by
  obtain ⟨⟨rfl | ⟨ad, cap, rfl⟩, rfl⟩ | ⟨b, off, cap, rfl, hb, hl, hm, hc⟩, hz⟩ := h
  · exact run_convert_bytes_nil W 23 5 Tryd.underlying23 Tryd.underlying5 0 0 9 Tryd.underlying9
  · rw [run_convert_bytes_string W 23 9 5 _ 0 cap Tryd.underlying23 Tryd.underlying5 Tryd.underlying9]
    exact run_bytesToString W ad 0 cap [] (run_loadCells_list (P := Tryd.prog) W ad [] (fun j v hj => by simp at hj))
  · exact run_convert_bytes_arg W 23 5 Tryd.underlying23 Tryd.underlying5 b off zs.length cap zs rfl (fun i hi => by rw [hc i hi]; rfl) 9 Tryd.underlying9

theorem run_append_bts (w : World) (base n₀ ty : Nat) (v sv : Value) (k : Nat) (xs zs : List Int) (hown : w.ownsRow base 5 1 v k (xs.map (Value.int .u8))) (hz : Bts n₀ w sv zs)
    (b1 : k + zs.length ≤ 140737488355328) (b3 : base ≤ w.heap.size) :
    ∃ v' w', (Builtin.append_ #[23, 23] ty #[v, sv]).run Tryd.prog w = .ok v' w' ∧ w'.ownsRow base 5 1 v' (k + zs.length) ((xs ++ zs).map (Value.int .u8)) ∧ w.grownBy w' v.ownBlock := by
  obtain ⟨i0, hi, hz0, hz1, hz2⟩ := info_parts Tryd.info5
  obtain ⟨⟨rfl | ⟨ad, cap, rfl⟩, rfl⟩ | ⟨b, off, cap, rfl, hb, hl, hm, hc⟩, hzz⟩ := hz
  · have hrun := run_append_owned_none (P := Tryd.prog) (w := w) base 23 ty 5 i0 1 Tryd.underlying23 hi v k _ hown
    exact ⟨v, w, hrun, by simpa using hown, rfl, rfl, rfl, Nat.le_refl _, fun _ _ _ => rfl⟩
  · obtain ⟨v', w', hrun, h1, h2, _⟩ := run_append_own (P := Tryd.prog) w base 23 ty 5 i0 (.int .u8 0) 1 1 Tryd.underlying23 hi hz0 hz1 hz2 rfl (by decide) v k _ hown ad 0 cap [] (by simp) (fun j u hj => by simp at hj) (fun u hu => by cases hu) (by unfold maxLen; simp at b1; omega) (by simp at b1; omega) b3
    exact ⟨v', w', hrun, by simpa using h1, h2⟩
  · obtain ⟨v', w', hrun, h1, h2, _⟩ := run_append_own (P := Tryd.prog) w base 23 ty 5 i0 (.int .u8 0) 1 1 Tryd.underlying23 hi hz0 hz1 hz2 rfl (by decide) v k _ hown ⟨b, off, none⟩ zs.length cap (zs.map (Value.int .u8)) (by simp) (by
      intro j u hj
      have hadd : (⟨b, off, none⟩ : Addr).add j = ⟨b, off + j, none⟩ := by unfold Addr.add; split <;> simp_all
      have hjl : j < zs.length := by
        rcases Nat.lt_or_ge j zs.length with h | h
        · exact h
        · rw [List.getElem?_map, List.getElem?_eq_none h] at hj; cases hj
      rw [hadd, hc j hjl, List.getElem?_eq_getElem hjl]
      rw [List.getElem?_map, List.getElem?_eq_getElem hjl] at hj
      exact hj) (by
      intro u hu
      obtain ⟨z, _, rfl⟩ := List.mem_map.1 hu
      rfl) (by unfold maxLen; omega) (by omega) b3
    exact ⟨v', w', hrun, by rw [List.map_append]; exact h1, h2⟩

theorem wp_append_bytes {o : Oper} {a : Act} {w : World} {K : Act → World → Prop} {Q : Exit → Act → World → Prop} (sl x : Operand) (hop : o.op = Op.call { callee := Callee.builtin Builtin.append, args := #[sl, x], argTypes := #[23, 23] })
    (v sv : Value) (hs : a.eval sl = v) (hx : a.eval x = sv) (base n₀ k : Nat) (xs zs : List Int) (hown : w.ownsRow base 5 1 v k (xs.map (Value.int .u8))) (hz : Bts n₀ w sv zs) (b1 : k + zs.length ≤ 140737488355328) (b3 : base ≤ w.heap.size)
    (hK : ∀ v' w', w'.ownsRow base 5 1 v' (k + zs.length) ((xs ++ zs).map (Value.int .u8)) → w.grownBy w' v.ownBlock → K (a.put o.dst v') w') : o.wp Tryd.prog a w K Q := by
  obtain ⟨v', w', hrun, h1, h2⟩ := run_append_bts w base n₀ o.type v sv k xs zs hown hz b1 b3
  unfold Oper.wp
  simp [execOp, hop, resolve, invoke, builtin, hs, hx, hrun, Result.andThen]
  exact hK v' w' h1 h2

end Go.Proofs.YtmahpceokpajgaaDoor.C
