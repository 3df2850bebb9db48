/- Drop. -/
import Derived.Test.YtpcdmjalfabbmaaTid
namespace Go.Proofs.Ytpcdmjalfabbmaa
open Go.RowKit Go.IntWalk Go.Maps
set_option linter.unusedVariables false
set_option maxRecDepth 100000 in
set_option maxHeartbeats 2000000 in
/-- Trie.Drop. -/
theorem drop_any (w : World) {S : Nat → Prop} {tb : Nat} {L : List E} (h : Tri S w tb L) (k : K) (hk : k.length ≤ 9223372036854775807) {o : Option ByteArray} (ho : Hid (gt L k = o)) :
    Calls Try.prog 14 #[ptr tb, .string (bt k)] w fun r w' => r = .returned (.tuple #[.string (vOf o), .bool o.isSome]) ∧ Tri S w' tb (delE k L) ∧ Kp S w w' := by
  have hsr := h.srt
  have hlen := h.len
  have hcong := h
  obtain ⟨P, nb, mb, lab, h1, h2, h3⟩ := h.ex
  have hpl : P.length ≤ 200001 := by
    have e1 := h1.tm.places hsr h2
    have e2 := nds_le L
    omega
  have hct := end_any w h1 k hk
  have tl := bt_toList
  have hdl := delE_len hsr k
  rw [ho.out] at hdl
  have hnone : Hid (o = none → ∀ w', w.grownBy w' none → Tri S w' tb (delE k L) ∧ Kp S w w') := ⟨fun e w' hg => by
    rw [delE_not (by rw [ho.out]; exact e)]
    refine ⟨hcong.kept fun j hj hl => hg.block j hl (by simp), Kp.of0 hg⟩⟩
  replace h2 : Hid _ := ⟨h2⟩
  replace h3 : Hid _ := ⟨h3⟩
  replace hsr : Hid _ := ⟨hsr⟩
  clear hcong h
  go_enter Try.func14, Try.ntmps14
  go_wp2_with fail
  refine hct.mono ?_
  rintro r w1 ⟨p, ab, hE, rfl, hg⟩
  have hpre := hE.1.2.1
  have h1' := h1.keep hg
  by_cases hpk : p = k
  · subst hpk
    have hr : p.drop p.length = [] := by simp
    rw [hr, bt_nil]
    have kP := hE.1.1
    have k1 := h1'.tm.c1 kP
    have k2 := h1'.tm.c2 kP
    have kf := h1'.tm.fz kP
    rw [ho.out] at k1 k2
    cases o with
    | none =>
      replace hnone : Hid _ := ⟨hnone.out rfl w1 hg⟩
      clear h1 hct h1' hdl
      go_wp2
      go_ret2
      exact ⟨rfl, hnone.out⟩
    | some v =>
      have hm := h1'.tm.setv kP none
      have htk : tb ≠ nb p := fun e' => h1'.nof ⟨p, kP, .inl e'⟩
      have hg1 := (grown_setCell w1 ⟨nb p, 1, none⟩ (.string (bt []))).trans (grown_setCell _ ⟨nb p, 2, none⟩ (.bool false))
      have hb2 := (hg1.block tb h1'.lt (by simpa using htk)).trans h1'.tb
      have hm2 : Tm ((w1.setCell ⟨nb p, 1, none⟩ (.string (bt []))).setCell ⟨nb p, 2, none⟩ (.bool false)) P nb mb lab (fset (gt L) p none) := hm
      rw [bt_nil] at hg1 hb2 hm2
      have x1 : ((w1.setCell ⟨nb p, 1, none⟩ (.string ⟨#[]⟩)).setCell ⟨nb p, 2, none⟩ (.bool false)).cell? ⟨tb, 1, none⟩ = some (.int .i64 L.length) := by
        simp only [World.cell?, hb2]
        rfl
      have xf : ((w1.setCell ⟨nb p, 1, none⟩ (.string ⟨#[]⟩)).setCell ⟨nb p, 2, none⟩ (.bool false)).frozen? ⟨tb, 1, none⟩ = false := by
        simp only [World.frozen?, hb2]
        rfl
      have hL : Hid ((delE p L).length + 1 = L.length) := ⟨by simpa using hdl⟩
      replace hg1 : Hid _ := ⟨hg1⟩
      replace hb2 : Hid _ := ⟨hb2⟩
      replace hm2 : Hid _ := ⟨hm2⟩
      clear hm hdl hct
      go_wp2_with fail
      have gs := grown_setCell ((w1.setCell ⟨nb p, 1, none⟩ (.string ⟨#[]⟩)).setCell ⟨nb p, 2, none⟩ (.bool false)) ⟨tb, 1, none⟩ (Value.int .i64 ((L.length : Int) - 1))
      have bs := heap_set hb2.out 1 (Value.int .i64 ((L.length : Int) - 1))
      have hT4 : Tw (((w1.setCell ⟨nb p, 1, none⟩ (.string ⟨#[]⟩)).setCell ⟨nb p, 2, none⟩ (.bool false)).setCell ⟨tb, 1, none⟩ (Value.int .i64 ((L.length : Int) - 1))) tb P nb mb lab (fset (gt L) p none) (delE p L).length := by
        refine ⟨hm2.out.kept fun j hj => gs.block j (hm2.out.flt hj) ?_, ?_⟩
        · simp
          rintro rfl
          exact h1.nof hj
        · have e1 : (((delE p L).length : Nat) : Int) = (L.length : Int) - 1 := by have := hL.out; omega
          rw [e1]
          exact bs
      have hK4 : Kp (Ft tb P nb mb) w (((w1.setCell ⟨nb p, 1, none⟩ (.string ⟨#[]⟩)).setCell ⟨nb p, 2, none⟩ (.bool false)).setCell ⟨tb, 1, none⟩ (Value.int .i64 ((L.length : Int) - 1))) := by
        refine ((Kp.of0 hg).grown hg1.out ?_).grown gs ?_
        · intro j hj; cases hj; exact .inl (.inr ⟨p, kP, .inl rfl⟩)
        · intro j hj; cases hj; exact .inl (.inl rfl)
      have htg := Cn.tg h1.tm.key h2.out
      have htd := tidy_any _ hT4 (k := p) (ab := ab) kP (fset_same _ _ _) hE.2 (fun x hx hne hxp => by
        rw [fset_other _ _ hxp]
        exact htg x hx hne) (by omega)
      clear gs bs
      refine htd.mono ?_
      rintro r w5 ⟨rfl, P1, nb1, mb1, lab1, hD⟩
      have hgd : ∀ x, fset (gt L) p none x = gt (delE p L) x := fun x => by
        rw [gt_del hsr.out]
        rfl
      have hfin : Hid (Tri S w5 tb (delE p L) ∧ Kp S w w5) := ⟨by
        refine ⟨⟨⟨P1, nb1, mb1, lab1, ⟨hD.tw.tm.congr hgd, hD.tw.tb⟩, ?_, fun j hj => ?_⟩, hsr.out.del _, ?_⟩, (hK4.trans hD.kp fun i _ hi => hi).mono h3.out⟩
        · exact (hD.tg.cn hD.tw.tm.cl).mono fun x hx => by rw [← hgd]; exact hx
        · rcases hj with rfl | hj
          · exact h3.out _ (.inl rfl)
          · exact h3.out _ (.inr (hD.fp j hj))
        · have := hL.out; omega⟩
      clear hD htd hT4 hK4 htg
      go_wp2
      go_ret2
      exact ⟨rfl, hfin.out⟩
  · have hr : k.drop p.length ≠ [] := fun e => hpk ((drop_nil_iff hpre).1 e)
    have hno := gt_no hE.1 hpk h1.tm.key
    have hon : Hid (o = none) := ⟨by rw [← ho.out, hno]⟩
    obtain ⟨rest, hrest⟩ : ∃ rest, Hid (k.drop p.length = rest) := ⟨_, ⟨rfl⟩⟩
    rw [hrest.out] at hr ⊢
    have hrb : (rest == ([] : K)) = false := by simpa using hr
    replace hnone : Hid _ := ⟨hnone.out hon.out w1 hg⟩
    clear h1 hct hr hno hpk h1' hdl
    go_wp2
    go_ret2
    exact ⟨by rw [hon.out]; rfl, hnone.out⟩
end Go.Proofs.Ytpcdmjalfabbmaa
