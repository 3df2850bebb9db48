/- The document's wheel: Advance. -/
import Derived.Test.YtlljfgpmjpmoiaaRwh
namespace Go.Proofs.Ytlljfgpmjpmoiaa
open Go.RowKit Go.IntWalk Go.Maps Go.Shelf
set_option linter.unusedVariables false
theorem Lc.take {w : World} {a : Option Addr} {len cap : Nat} {L : List E} (h : Lc w (.slice a len cap) L) (n : Nat) (hn : n ≤ L.length) : Lc w (.slice a n cap) (L.take n) := by
  rcases h with ⟨e, rfl⟩ | ⟨b, off, c, e, hb, hl, hm, hc⟩
  · have h0 : n = 0 := by simpa using hn
    subst h0
    rcases e with e | ⟨ad, c, e⟩
    · simp only [Value.slice.injEq] at e
      obtain ⟨rfl, _, rfl⟩ := e
      exact .inl ⟨.inl rfl, rfl⟩
    · simp only [Value.slice.injEq] at e
      obtain ⟨rfl, _, rfl⟩ := e
      exact .inl ⟨.inr ⟨_, _, rfl⟩, rfl⟩
  · simp only [Value.slice.injEq] at e
    obtain ⟨rfl, _, rfl⟩ := e
    have hlen : (L.take n).length = n := by rw [List.length_take]; omega
    refine .inr ⟨b, off, cap, by rw [hlen], hb, by omega, hm, fun j x hj => ?_⟩
    rw [List.getElem?_take] at hj
    split at hj
    · exact hc j x hj
    · cases hj
set_option maxRecDepth 100000 in
set_option maxHeartbeats 1000000 in
/-- belfryref07.Wheel.Advance. -/
theorem rwadv_s {W w : World} {mb : Nat} {nw nn : Int} {L A T : List E} {l : List Res} (h : Dw W w mb nw L l) (hs : Srt L) (hab : ∀ e ∈ L, nw < e.at_) (hl : L.length ≤ 99999) (t : Int) (hA : Hid (due t L = A)) (hT : Hid (rst t L = T)) (hn : Hid ((if nw < t then t else nw) = nn)) :
    Calls Try.prog 17 #[.pointer (some ⟨mb, 0, none⟩), .int .u64 t] w fun r w' => ∃ a c, r = .returned (.slice a A.length c) ∧ Lc w' (.slice a A.length c) A ∧ Dw W w' mb nn T l := by
  by_cases hlt : t < nw
  · obtain ⟨d1, d2⟩ := due_none hab (by omega : t ≤ nw)
    have e1 : A = [] := by rw [← hA.out, d1]
    have e2 : T = L := by rw [← hT.out, d2]
    have e3 : nn = nw := by rw [← hn.out]; split <;> omega
    subst e1 e2 e3
    obtain ⟨a, cap, hLc, c0, c1, fz⟩ := h.cells
    have hd : decide (t < nn) = true := by simpa using hlt
    go_enter Try.func17, Try.ntmps17
    go_wp2
    go_ret
    exact ⟨none, 0, rfl, .inl ⟨.inl rfl, rfl⟩, h⟩
  · have e3 : nn = t := by rw [← hn.out]; split <;> omega
    subst e3
    obtain ⟨tk1, tk2⟩ := tk_due (now := nn) hs
    have hA2 : Hid (tkN nn L = A) := ⟨by rw [tk1]; exact hA.out⟩
    have hAl : A.length ≤ L.length := by rw [← hA.out]; exact List.length_filter_le _ _
    have hAT : A ++ T = L := by rw [← hA.out, ← hT.out, ← tk1, ← tk2]; exact tk_dr nn L
    have hAe : A = L.take A.length := by rw [← hAT]; simp
    have hTe : T = L.drop A.length := by rw [← hAT]; simp
    have hTl : L.length = A.length + T.length := by rw [← hAT]; simp
    have hd : decide (nn < nw) = false := by simpa using hlt
    obtain ⟨a, cap, hLc, c0, c1, fz⟩ := h.cells
    obtain ⟨v, rl, hv, hS⟩ := h
    obtain ⟨a', cap', rfl⟩ := hv.shape
    have hb := St.b (l := rl ++ l) hS
    obtain ⟨d0, d1, fz'⟩ := own_b hb
    rw [d1] at c1
    simp only [Option.some.injEq, Value.slice.injEq, true_and] at c1
    obtain ⟨rfl, rfl⟩ := c1
    have fz0 := fz' 0
    have fz1 := fz' 1
    clear fz fz' tk1 tk2 hlt
    obtain ⟨q1, q2, q3⟩ := hv.cap
    have hLA : Lc w (.slice a' A.length cap') A := by have := hLc.take A.length hAl; rw [← hAe] at this; exact this
    unfold maxLen at q2
    replace hAe : Hid _ := ⟨hAe⟩
    replace hTe : Hid _ := ⟨hTe⟩
    replace hTl : Hid _ := ⟨hTl⟩
    replace hAT : Hid _ := ⟨hAT⟩
    have hfin : Hid (∀ (v' : Value) (rl' : List Res), Lv v' T rl' → rl'.Sublist rl → Lc ((w.setCell ⟨mb, 1, none⟩ v').setCell ⟨mb, 0, none⟩ (.int .u64 nn)) (.slice a' A.length cap') A ∧ Dw W ((w.setCell ⟨mb, 1, none⟩ v').setCell ⟨mb, 0, none⟩ (.int .u64 nn)) mb nn T l) := ⟨fun v' rl' hv' hsub => by
      have hb2 := heap_set (heap_set hb 1 v') 0 (.int .u64 nn)
      have hS2 : St W ((w.setCell ⟨mb, 1, none⟩ v').setCell ⟨mb, 0, none⟩ (.int .u64 nn)) (mw mb nn v' :: (rl ++ l)) := St.put (l := rl ++ l) hS ((grown_setCell w ⟨mb, 1, none⟩ _).andThen (grown_setCell _ ⟨mb, 0, none⟩ _) fun j hj => .inr hj) (by rw [hb2]; rfl)
      have h1 := (hv.lc hS2 (fun r hr => by simp [hr])).take A.length hAl
      rw [← hAe.out] at h1
      exact ⟨h1, v', rl', hv', hS2.sub (List.Sublist.cons_cons _ (hsub.append (List.Sublist.refl l)))⟩⟩
    clear hS hLA hb
    rcases hv.addr with ⟨rfl, rfl, rfl, rfl⟩ | ⟨g, o, rfl⟩
    · have hA0 : A = [] := by simpa using hAe.out
      have hT0 : T = [] := by simpa using hTe.out
      subst hA0 hT0
      obtain ⟨hf1, hf2⟩ := hfin.out (.slice none 0 0) [] hv (by simp)
      replace hf1 : Hid _ := ⟨hf1⟩
      replace hf2 : Hid _ := ⟨hf2⟩
      clear hfin
      go_enter Try.func17, Try.ntmps17
      go_wp2_with fail
      refine (rdue_e w hLc (by omega) nn hA2).mono ?_
      rintro r w1 ⟨rfl, rfl⟩
      go_wp2
      go_ret
      exact ⟨none, 0, rfl, hf1.out, hf2.out⟩
    · by_cases hc : cap' = A.length
      · subst hc
        have hT0 : Hid (T.length = 0) := ⟨by have := hTl.out; omega⟩
        have hLA : Hid (L.length - A.length = 0) := ⟨by omega⟩
        obtain ⟨hf1, hf2⟩ := hfin.out (.slice (some ⟨g, o, none⟩) 0 0) [] (by
          exact .inl ⟨.inr ⟨g, o, 0, rfl, by unfold maxLen; omega⟩, List.eq_nil_of_length_eq_zero hT0.out, rfl⟩) (List.nil_sublist _)
        replace hf1 : Hid _ := ⟨hf1⟩
        replace hf2 : Hid _ := ⟨hf2⟩
        clear hfin
        go_enter Try.func17, Try.ntmps17
        go_wp2_with fail
        refine (rdue_e w hLc (by omega) nn hA2).mono ?_
        rintro r w1 ⟨rfl, rfl⟩
        go_wp2
        go_ret
        exact ⟨_, _, rfl, hf1.out, hf2.out⟩
      · have hc2 : A.length < cap' := by omega
        have hc3 : ¬ cap' - A.length = 0 := by omega
        have hrest := hv.rest A.length hAl T hTe.out (o + A.length * 2) rfl (L.length - A.length) (by have := hTl.out; omega) (cap' - A.length) rfl
        obtain ⟨hf1, hf2⟩ := hfin.out _ rl hrest (List.Sublist.refl _)
        replace hf1 : Hid _ := ⟨hf1⟩
        replace hf2 : Hid _ := ⟨hf2⟩
        clear hfin hrest
        go_enter Try.func17, Try.ntmps17
        go_wp2_with fail
        refine (rdue_e w hLc (by omega) nn hA2).mono ?_
        rintro r w1 ⟨rfl, rfl⟩
        go_wp2
        go_ret
        exact ⟨_, _, rfl, hf1.out, hf2.out⟩
end Go.Proofs.Ytlljfgpmjpmoiaa
