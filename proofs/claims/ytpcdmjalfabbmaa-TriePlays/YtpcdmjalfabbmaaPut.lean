/- Put. -/
import Derived.Test.YtpcdmjalfabbmaaTox
import Derived.Test.YtpcdmjalfabbmaaNds
namespace Go.Proofs.Ytpcdmjalfabbmaa
open Go.RowKit Go.IntWalk Go.Maps
set_option linter.unusedVariables false
/-- A trie: its entries by rising keys; its blocks are such that S is true of them. -/
structure Tri (S : Nat → Prop) (w : World) (tb : Nat) (L : List E) : Prop where
  ex : ∃ P nb mb lab, Tw w tb P nb mb lab (gt L) L.length ∧ Cn P (fun k => (gt L k).isSome = true) ∧ ∀ j, Ft tb P nb mb j → S j
  srt : Srt L
  len : L.length ≤ 100000
section
variable {S S' : Nat → Prop} {w w' : World} {tb : Nat} {L : List E}
theorem Tri.mono (h : Tri S w tb L) (hs : ∀ k, S k → S' k) : Tri S' w tb L := by
  obtain ⟨P, nb, mb, lab, h1, h2, h3⟩ := h.ex
  exact ⟨⟨P, nb, mb, lab, h1, h2, fun j hj => hs j (h3 j hj)⟩, h.srt, h.len⟩
theorem Tri.kept (h : Tri S w tb L) (hb : ∀ k, S k → k < w.heap.size → w'.heap[k]? = w.heap[k]?) : Tri S w' tb L := by
  obtain ⟨P, nb, mb, lab, h1, h2, h3⟩ := h.ex
  refine ⟨⟨P, nb, mb, lab, h1.kept fun j hj => hb j (h3 j hj) ?_, h2, h3⟩, h.srt, h.len⟩
  rcases hj with rfl | hj
  · exact h1.lt
  · exact h1.tm.flt hj
end
theorem Tm.places {w : World} {P : List K} {nb mb : K → Nat} {lab : K → K} {L : List E} (h : Tm w P nb mb lab (gt L)) (hs : Srt L) (hC : Cn P (fun k => (gt L k).isSome = true)) : P.length = nds L := Ytpcdmjalfabbmaa.places hs h.nd h.root h.cl h.key hC
/-- How far Put has come. -/
structure Way (w wr : World) (tb : Nat) (P0 : List K) (nb0 mb0 : K → Nat) (L : List E) (k : K) (P : List K) (nb mb : K → Nat) (lab : K → K) (p : K) : Prop where
  tw : Tw wr tb P nb mb lab (gt L) L.length
  up : p ∈ P
  pre : p <+: k
  cn : Cn P (fun x => x = k ∨ (gt L x).isSome = true)
  kp : Kp (Ft tb P0 nb0 mb0) w wr
  fp : ∀ j, Fp P nb mb j → Fp P0 nb0 mb0 j ∨ w.heap.size ≤ j
  ln : P.length ≤ P0.length + p.length
set_option maxRecDepth 100000 in
set_option maxHeartbeats 2000000 in
/-- Trie.Put. -/
theorem put_any (w : World) {S : Nat → Prop} {tb : Nat} {L : List E} (h : Tri S w tb L) (k : K) (v : ByteArray) (hk : k.length ≤ 100000) (hl : L.length < 100000) :
    Calls Try.prog 12 #[ptr tb, .string (bt k), .string v] w fun r w' => r = .returned (.tuple #[.string (vOf (gt L k)), .bool (gt L k).isSome]) ∧ Tri (fun j => S j ∨ (w.heap.size ≤ j ∧ j < w'.heap.size)) w' tb (putE ⟨k, v⟩ L) ∧ Kp S w w' := by
  obtain ⟨P0, nb0, mb0, lab0, h1, h2, h3⟩ := h.ex
  have hs := h.srt
  have hpl : P0.length ≤ 200001 := by
    have e1 := h1.tm.places hs h2
    have e2 := nds_le L
    omega
  have c0 := h1.c0
  have hst : Hid (Way w w tb P0 nb0 mb0 L k P0 nb0 mb0 lab0 []) := ⟨⟨h1, h1.tm.root, List.nil_prefix, h2.mono fun p hp => .inr hp, Kp.refl _ _, fun j hj => .inl hj, by simp⟩⟩
  have tl := bt_toList
  replace h1 : Hid _ := ⟨h1⟩
  replace h2 : Hid _ := ⟨h2⟩
  replace h3 : Hid _ := ⟨h3⟩
  replace hs : Hid _ := ⟨hs⟩
  clear h
  go_enter Try.func12, Try.ntmps12
  go_wp2_with fail
  go_loopw [8, 9] (fun s8 s9 wr => ∃ (P : List K) (nb mb : K → Nat) (lab : K → K) (p : K), s8 = ptr (nb p) ∧ s9 = .string (bt (k.drop p.length)) ∧ Hid (Way w wr tb P0 nb0 mb0 L k P nb mb lab p))
    (fun _ s9 _ => match s9 with | .string s => s.size | _ => 0)
  case atStart => exact ⟨P0, nb0, mb0, lab0, [], rfl, rfl, hst⟩
  case round =>
    clear hst
    obtain ⟨P, nb, mb, lab, p, rfl, rfl, hW⟩ := hrel
    obtain ⟨rest, hr⟩ : ∃ rest, Hid (k.drop p.length = rest) := ⟨_, ⟨rfl⟩⟩
    rw [hr.out]
    cases rest with
    | nil =>
      have hpk : Hid (p = k) := ⟨hW.out.pre.eq_of_length (by
        have e1 := hW.out.pre.length_le
        have e2 := congrArg List.length hr.out
        simp at e2
        omega)⟩
      rw [bt_nil]
      haveI := lat_nonempty wr
      have k1 := lat_cell (hW.out.tw.tm.c1 hW.out.up)
      have k2 := lat_cell (hW.out.tw.tm.c2 hW.out.up)
      rw [hpk.out] at k1 k2 ⊢
      obtain ⟨o, ho⟩ : ∃ o, Hid (gt L k = o) := ⟨_, ⟨rfl⟩⟩
      rw [ho.out] at k1 k2
      go_wp2_with fail
      refine wp_region_lat (by kernel_rfl) (by kernel_rfl) ?_
      repeat (go_big_quiet_step (fail))
      refine wpQuiet_nil ?_
      intro _ hw'
      obtain ⟨q, hw''⟩ := hw'
      subst hw''
      have hg0 := q.h
      obtain ⟨w1, hw1⟩ : ∃ w1, w1 = q.W := ⟨_, rfl⟩
      rw [← hw1] at hg0 ⊢
      clear hw1 k1 k2 q
      have hW2 := hW.out.tw.keep hg0
      have hkP : k ∈ P := hpk.out ▸ hW.out.up
      have hkp := hW.out.kp.grown hg0 (by simp)
      have m1 := hW2.tm.c1 hkP
      have m2 := hW2.tm.c2 hkP
      have mf := hW2.tm.fz hkP
      have mset := hW2.tm.setv hkP (some v)
      have htk : tb ≠ nb k := fun e' => hW2.nof ⟨k, hkP, .inl e'⟩
      have hg1 := (grown_setCell w1 ⟨nb k, 1, none⟩ (.string v)).trans (grown_setCell _ ⟨nb k, 2, none⟩ (.bool true))
      have hmset : Hid (Tm ((w1.setCell ⟨nb k, 1, none⟩ (.string v)).setCell ⟨nb k, 2, none⟩ (.bool true)) P nb mb lab (fset (gt L) k (some v))) := ⟨mset⟩
      have hb2 := (hg1.block tb hW2.lt (by simpa using htk)).trans hW2.tb
      have x1 : ((w1.setCell ⟨nb k, 1, none⟩ (.string v)).setCell ⟨nb k, 2, none⟩ (.bool true)).cell? ⟨tb, 1, none⟩ = some (.int .i64 L.length) := by
        simp only [World.cell?, hb2]
        rfl
      have xf : ((w1.setCell ⟨nb k, 1, none⟩ (.string v)).setCell ⟨nb k, 2, none⟩ (.bool true)).frozen? ⟨tb, 1, none⟩ = false := by
        simp only [World.frozen?, hb2]
        rfl
      have hfin : ∀ w3, Kp (Ft tb P0 nb0 mb0) w w3 → Tm w3 P nb mb lab (fset (gt L) k (some v)) → w3.heap[tb]? = some (.cells #[ptr (nb []), .int .i64 (putE ⟨k, v⟩ L).length, .int .i64 P.length] 59 (0, 0)) → Tri (fun j => S j ∨ (w.heap.size ≤ j ∧ j < w3.heap.size)) w3 tb (putE ⟨k, v⟩ L) ∧ Kp S w w3 := fun w3 q1 q2 q3 => by
        have hgp : ∀ x, fset (gt L) k (some v) x = gt (putE ⟨k, v⟩ L) x := fun x => by
          rw [gt_put hs.out]
          rfl
        refine ⟨⟨⟨P, nb, mb, lab, ⟨q2.congr hgp, q3⟩, Cn.mono hW.out.cn fun x hx => ?_, fun j hj => ?_⟩, hs.out.put _, ?_⟩, q1.mono h3.out⟩
        · rw [gt_put hs.out]
          by_cases e : x = k
          · simp [e]
          · simp only [e, if_false]
            exact hx.resolve_left e
        · rcases hj with rfl | hj
          · exact .inl (h3.out _ (.inl rfl))
          · rcases hW.out.fp j hj with h | h
            · exact .inl (h3.out _ (.inr h))
            · exact .inr ⟨h, q2.flt hj⟩
        · have := putE_le hs.out ⟨k, v⟩
          omega
      replace hfin : Hid _ := ⟨hfin⟩
      replace hkp : Hid _ := ⟨hkp⟩
      have hg1' : Hid _ := ⟨hg1⟩
      have hb2' : Hid _ := ⟨hb2⟩
      have hlen := putE_len hs.out ⟨k, v⟩
      have hlen2 := delE_len hs.out k
      simp only at hlen
      rw [ho.out] at hlen2 m1 m2
      clear hW2 mset hg0 hg1 hb2
      cases o with
      | some u =>
        have hl2 : Hid ((putE ⟨k, v⟩ L).length = L.length) := ⟨by simp at hlen2; omega⟩
        clear hlen hlen2
        go_wp2_with fail
        go_ret2
        refine ⟨by rw [ho.out]; rfl, hfin.out _ (hkp.out.grown hg1'.out fun j hj => ?_) hmset.out ?_⟩
        · cases hj
          rcases hW.out.fp _ ⟨k, hkP, .inl rfl⟩ with h | h
          · exact .inl (.inr h)
          · exact .inr h
        · rw [hl2.out]
          exact hb2'.out
      | none =>
        have hl2 : Hid ((putE ⟨k, v⟩ L).length = L.length + 1) := ⟨by simp at hlen2; omega⟩
        clear hlen hlen2
        go_wp2_with fail
        go_ret2
        have g4 := grown_setCell ((w1.setCell ⟨nb k, 1, none⟩ (.string v)).setCell ⟨nb k, 2, none⟩ (.bool true)) ⟨tb, 1, none⟩ (Value.int IntKind.i64 ((L.length : Int) + 1))
        refine ⟨by rw [ho.out]; rfl, hfin.out _ ((hkp.out.grown hg1'.out fun j hj => ?_).grown g4 fun j hj => ?_) (hmset.out.kept fun j hj => g4.block j (hmset.out.flt hj) ?_) ?_⟩
        · cases hj
          rcases hW.out.fp _ ⟨k, hkP, .inl rfl⟩ with h | h
          · exact .inl (.inr h)
          · exact .inr h
        · cases hj
          exact .inl (.inl rfl)
        · have := hW.out.tw.nof
          simp
          rintro rfl
          exact this hj
        · rw [hl2.out]
          exact heap_set hb2'.out 1 _
    | cons c l =>
      have hkp : Hid (p ++ c :: l = k) := ⟨by
        obtain ⟨t, ht⟩ := hW.out.pre
        have e1 := hr.out
        rw [← ht, List.drop_left' rfl] at e1
        rw [← ht, e1]⟩
      have hpn : P.length ≤ 1000000 := by
        have e1 := hW.out.ln
        have e2 := hW.out.pre.length_le
        omega
      have hsz := bt_size (c :: l)
      have hct := toward_any wr hW.out.tw (c := c) (l := l) hW.out.up (by rw [hkp.out]; exact hk) hpn
      rw [hkp.out] at hct
      replace hsz : Hid _ := ⟨hsz⟩
      go_wp2_with fail
      refine hct.mono ?_
      rintro r w2 ⟨P', nb', mb', lab', q, rfl, hT⟩
      replace hT : Hid _ := ⟨hT⟩
      go_wp2_with fail
      go_roundw
      case rel =>
        have hT := hT.out
        refine ⟨P', nb', mb', lab', q, rfl, rfl, ⟨⟨hT.tw, hT.qP, hT.pre, hT.cn _ (.inl rfl) hW.out.cn, ?_, ?_, ?_⟩⟩⟩
        · refine hW.out.kp.trans hT.kp fun i hi hf => ?_
          rcases hf with rfl | hf
          · exact .inl rfl
          · rcases hW.out.fp i hf with h | h
            · exact .inr h
            · omega
        · intro j hj
          rcases hT.fp j hj with h | h
          · exact hW.out.fp j h
          · have := hW.out.kp.size
            exact .inr (by omega)
        · have e1 := hW.out.ln
          have e2 := hT.ln
          have e3 := hT.lt
          omega
      case measure =>
        have e1 := congrArg List.length hr.out
        have e3 := hT.out.lt
        have e4 := hT.out.pre.length_le
        simp only [bt_size]
        simp at e1 ⊢
        omega
end Go.Proofs.Ytpcdmjalfabbmaa
