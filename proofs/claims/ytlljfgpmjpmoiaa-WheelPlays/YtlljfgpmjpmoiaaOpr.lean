/- Drop and Put of a wheel. -/
import Derived.Test.YtlljfgpmjpmoiaaWhl
namespace Go.Proofs.Ytlljfgpmjpmoiaa
open Go.RowKit Go.IntWalk Go.Maps Go.Shelf
set_option linter.unusedVariables false
theorem atP_eq {now : Int} {L M : List E} (hL : Srt L) (hM : Srt M) {j : Nat} (h : ∀ x, pE now x = j → (x ∈ L ↔ x ∈ M)) : atP now L j = atP now M j :=
  (hL.atP now j).eq (hM.atP now j) fun x => by
    rw [mem_atP, mem_atP]
    constructor
    · rintro ⟨h1, h2⟩; exact ⟨(h x h2).1 h1, h2⟩
    · rintro ⟨h1, h2⟩; exact ⟨(h x h2).2 h1, h2⟩
theorem Kp.set {C : Nat → Prop} {w w' : World} {b : Nat} (hg : w.grownBy w' (some b)) (hb : C b) : Kp C w w' := Kp.of hg fun k hk => by cases hk; exact hb
theorem Kp.on {C : Nat → Prop} {a b c : World} (h : Kp C a b) (k : Kp C b c) : Kp C a c := h.trans k fun _ _ h => h
set_option maxRecDepth 100000 in
set_option maxHeartbeats 1000000 in
/-- Wheel.Drop. -/
theorem drop_any (w : World) {S : Nat → Prop} {wb : Nat} {now : Int} {L : List E} (h : Wh S w wb now L) (n : ByteArray) (hn : n.size ≤ maxLen) :
    Calls Try.prog 13 #[.pointer (some ⟨wb, 0, none⟩), .string n] w fun r w' => r = .returned (.bool (hasN n L)) ∧ Wh S w' wb now (delN n L) ∧ Kp S w w' := by
  obtain ⟨bd, bs, h1, h2⟩ := h.ex
  have hsr := h.srt
  have c1 := h1.c1
  rcases h1.dl.look hn with ⟨e, he, hen, hlk⟩ | ⟨hno, c, hlk⟩
  · have hok := h.ok e he
    have hab := h.abv e he
    have hat := atP_len now L (pE now e)
    have hpl : pE now e < 65 := plc_lt
    have hS : Sset w (bs (pE now e)) (atP now L (pE now e)) := h1.st _ hpl
    subst hen
    have hhas : Hid (hasN e.n L = true) := ⟨hasN_iff.2 ⟨e, he, rfl⟩⟩
    rw [hhas.out]
    go_enter Try.func13, Try.ntmps13
    go_wp2_with fail
    refine (home_any w h1 e.at_ hok.2 (by omega)).mono ?_
    rintro r w1 ⟨rfl, hg1⟩
    have hb1 : bs (plc now.toNat e.at_.toNat) = bs (pE now e) := rfl
    rw [hb1]
    have w1f := h1.keep hg1
    have hmem : ∀ x, x ∈ atP now (delN e.n L) (pE now e) ↔ x ∈ atP now L (pE now e) ∧ x ≠ e := fun x => by
      rw [mem_atP, mem_atP, mem_delN]
      constructor
      · rintro ⟨⟨a, b⟩, c⟩; exact ⟨⟨a, c⟩, fun ex => b (by rw [ex])⟩
      · rintro ⟨⟨a, c⟩, b⟩; exact ⟨⟨a, fun en => b (hsr.un x a e he en)⟩, c⟩
    obtain ⟨w2, hrun2, hs2, hg2⟩ := (w1f.st _ hpl).drop hok ((hsr.del e.n).atP now _).nodup hmem 0
    have w2f : Wf w2 wb bd bs now L (atP now (delN e.n L)) := w1f.turnSet hpl hg2 hs2 fun j hj => by
      by_cases ej : j = pE now e
      · subst ej; simp
      · rw [if_neg ej]
        refine atP_eq (hsr.del e.n) hsr fun x hx => ?_
        rw [mem_delN]
        exact ⟨fun h => h.1, fun h => ⟨h, fun en => ej (by rw [← hx, hsr.un x h e he en])⟩⟩
    obtain ⟨w3, hrun3, hd3, hg3⟩ := w2f.dl.drop hsr hok.1 0
    have w3f := w2f.turnDl hg3 hd3
    have c1' := w2f.c1
    have hK : Kp S w w3 := ((Kp.of0 hg1).on (Kp.set hg2 (h2 _ (.inr (.inr ⟨_, hpl, rfl⟩))))).on (Kp.set hg3 (h2 _ (.inr (.inl rfl))))
    generalize bs (pE now e) = b at *
    replace w1f : Hid _ := ⟨w1f⟩
    replace w2f : Hid _ := ⟨w2f⟩
    replace w3f : Hid _ := ⟨w3f⟩
    replace hK : Hid _ := ⟨hK⟩
    replace hg2 : Hid _ := ⟨hg2⟩
    replace hg3 : Hid _ := ⟨hg3⟩
    replace hd3 : Hid _ := ⟨hd3⟩
    replace hs2 : Hid _ := ⟨hs2⟩
    replace hmem : Hid _ := ⟨hmem⟩
    go_wp2
    go_ret
    refine ⟨rfl, ⟨⟨bd, bs, w3f.out, h2⟩, hsr.del _, fun x hx => h.abv x (mem_delN.1 hx).1, fun x hx => h.ok x (mem_delN.1 hx).1, ?_⟩, hK.out⟩
    have := delN_le e.n L
    have := h.len
    omega
  · have hhas : hasN n L = false := hasN_not.2 hno
    rw [delN_not hhas, hhas]
    replace hhas : Hid _ := ⟨hhas⟩
    replace hno : Hid _ := ⟨hno⟩
    go_enter Try.func13, Try.ntmps13
    go_wp2
    go_ret
    exact ⟨rfl, h, Kp.refl S w⟩
set_option maxRecDepth 100000 in
set_option maxHeartbeats 1000000 in
theorem drop_nil (w : World) (n : ByteArray) : Calls Try.prog 13 #[.pointer none, .string n] w fun r w' => r = .returned (.bool false) ∧ w' = w := by
  go_enter Try.func13, Try.ntmps13
  go_wp2
  go_ret
  exact ⟨rfl, rfl⟩
set_option maxRecDepth 100000 in
set_option maxHeartbeats 1000000 in
/-- Wheel.Put of a deadline above the clock. -/
theorem put_some (w : World) {S : Nat → Prop} {wb : Nat} {now : Int} {L : List E} (h : Wh S w wb now L) (e : E) (he : e.ok) (ha : now < e.at_) (hl : L.length < 100000) :
    Calls Try.prog 11 #[.pointer (some ⟨wb, 0, none⟩), .string e.n, .int .u64 e.at_] w fun r w' => r = .returned (.bool true) ∧ Wh S w' wb now (putE e L) ∧ Kp S w w' := by
  have hd : decide (e.at_ ≤ now) = false := by simp; omega
  have hcd := drop_any w h e.n he.1
  have c0 : w.cell? ⟨wb, 0, none⟩ = some (.int .u64 now) := by obtain ⟨bd, bs, h1, h2⟩ := h.ex; exact h1.c0
  have hsr := h.srt
  have hab := h.abv
  have hok := h.ok
  have hlen := h.len
  go_enter Try.func11, Try.ntmps11
  go_wp2_with fail
  refine hcd.mono ?_
  rintro r w1 ⟨rfl, hw1, hK1⟩
  obtain ⟨bd, bs, h1, h2⟩ := hw1.ex
  have c1 := h1.c1
  have hpl : pE now e < 65 := plc_lt
  have hno : ∀ x ∈ delN e.n L, x.n ≠ e.n := fun x hx => (mem_delN.1 hx).2
  have hdl := delN_le e.n L
  obtain ⟨w2, hrun2, hd2, hg2⟩ := h1.dl.store (L' := putE e L) (by unfold maxLen; omega) he hno (fun x => by rw [mem_putE, mem_delN]) (putE_len hsr e)
  have w2f := h1.turnDl hg2 hd2
  have hm : ∀ x, x ∈ atP now (putE e L) (pE now e) ↔ x = e ∨ x ∈ atP now (delN e.n L) (pE now e) := fun x => by
    rw [mem_atP, mem_atP, mem_putE, mem_delN]
    constructor
    · rintro ⟨rfl | h, b⟩
      · exact .inl rfl
      · exact .inr ⟨h, b⟩
    · rintro (rfl | ⟨h, b⟩)
      · exact ⟨.inl rfl, rfl⟩
      · exact ⟨.inr h, b⟩
  have hcl : (atP now (delN e.n L) (pE now e)).length < maxLen := by
    have := atP_len now (delN e.n L) (pE now e)
    unfold maxLen
    omega
  replace hd2 : Hid _ := ⟨hd2⟩
  replace hg2 : Hid _ := ⟨hg2⟩
  replace hm : Hid _ := ⟨hm⟩
  replace hno : Hid _ := ⟨hno⟩
  go_wp2_with fail
  refine (home_any w2 w2f e.at_ he.2 (by omega)).mono ?_
  rintro r w3 ⟨rfl, hg3⟩
  have hb1 : bs (plc now.toNat e.at_.toNat) = bs (pE now e) := rfl
  rw [hb1]
  have w3f := w2f.keep hg3
  have hsa := w3f.st _ hpl
  have hK3 : Hid (Kp S w w3) := ⟨(hK1.on (Kp.set hg2.out (h2 _ (.inr (.inl rfl))))).on (Kp.of0 hg3)⟩
  have hbS : S (bs (pE now e)) := h2 _ (.inr (.inr ⟨_, hpl, rfl⟩))
  go_wp2_with fail
  refine (add_any w3 hsa hcl he ((hsr.put e).atP now (pE now e)).nodup hm.out).mono ?_
  rintro r w4 ⟨rfl, hs4, hg4⟩
  have w4f : Wf w4 wb bd bs now (putE e L) (atP now (putE e L)) := w3f.turnSet hpl hg4 hs4 fun j hj => by
    by_cases ej : j = pE now e
    · subst ej; simp
    · rw [if_neg ej]
      refine atP_eq (hsr.put e) (hsr.del e.n) fun x hx => ?_
      rw [mem_putE, mem_delN]
      exact ⟨fun h => h.elim (fun h => absurd (by rw [← hx, h]) ej) id, .inr⟩
  replace w4f : Hid _ := ⟨w4f⟩
  replace hs4 : Hid _ := ⟨hs4⟩
  replace hg4 : Hid _ := ⟨hg4⟩
  go_wp2
  go_ret
  refine ⟨rfl, ⟨⟨bd, bs, w4f.out, h2⟩, hsr.put e, fun x hx => ?_, fun x hx => ?_, ?_⟩, hK3.out.on (Kp.set hg4.out hbS)⟩
  · rcases mem_putE.1 hx with rfl | hx
    · exact ha
    · exact hab x hx.1
  · rcases mem_putE.1 hx with rfl | hx
    · exact he
    · exact hok x hx.1
  · have := putE_le hsr e
    omega
set_option maxRecDepth 100000 in
set_option maxHeartbeats 1000000 in
/-- .. of one that is not. -/
theorem put_none (w : World) {S : Nat → Prop} {wb : Nat} {now : Int} {L : List E} (h : Wh S w wb now L) (n : ByteArray) (a : Int) (ha : a ≤ now) :
    Calls Try.prog 11 #[.pointer (some ⟨wb, 0, none⟩), .string n, .int .u64 a] w fun r w' => r = .returned (.bool false) ∧ w' = w := by
  have hd : decide (a ≤ now) = true := by simpa using ha
  have c0 : w.cell? ⟨wb, 0, none⟩ = some (.int .u64 now) := by obtain ⟨bd, bs, h1, h2⟩ := h.ex; exact h1.c0
  go_enter Try.func11, Try.ntmps11
  go_wp2
  go_ret
  exact ⟨rfl, rfl⟩
set_option maxRecDepth 100000 in
set_option maxHeartbeats 1000000 in
theorem put_nil (w : World) (n : ByteArray) (a : Int) : Calls Try.prog 11 #[.pointer none, .string n, .int .u64 a] w fun r w' => r = .returned (.bool false) ∧ w' = w := by
  go_enter Try.func11, Try.ntmps11
  go_wp2
  go_ret
  exact ⟨rfl, rfl⟩
end Go.Proofs.Ytlljfgpmjpmoiaa
