/- The document's wheel as a law holds it: its struct, and its list, which is a row of its own, or its rest. -/
import Derived.Test.YtlljfgpmjpmoiaaLev
namespace Go.Proofs.Ytlljfgpmjpmoiaa
open Go.RowKit Go.IntWalk Go.Maps Go.Shelf
set_option linter.unusedVariables false
/-- The list L lies in v: it is the rest of a row of the law's own, or nothing. -/
def Lv (v : Value) (L : List E) (rl : List Res) : Prop :=
  ((v = .slice none 0 0 ∨ ∃ g o cap, v = .slice (some ⟨g, o, Option.none⟩) 0 cap ∧ cap ≤ maxLen) ∧ L = [] ∧ rl = []) ∨ ∃ g o cap off mcap M, rl = [.r 45 (.slice (some ⟨g, 0, none⟩) (List.length M) mcap) M] ∧ v = .slice (some ⟨g, o, none⟩) L.length cap ∧ o = off * 2 ∧ L = M.drop off ∧ L.length ≤ cap ∧ cap ≤ maxLen
theorem Lv.shape {v : Value} {L : List E} {rl : List Res} (h : Lv v L rl) : ∃ a cap, v = .slice a L.length cap := by
  rcases h with ⟨rfl | ⟨g, o, cap, rfl, _⟩, rfl, rfl⟩ | ⟨g, o, cap, off, mcap, M, _, rfl, _⟩
  · exact ⟨none, 0, rfl⟩
  · exact ⟨_, _, rfl⟩
  · exact ⟨_, _, rfl⟩
theorem Lv.cap {a : Option Addr} {len cap : Nat} {L : List E} {rl : List Res} (h : Lv (.slice a len cap) L rl) : L.length ≤ cap ∧ cap ≤ maxLen ∧ (a = none → cap = 0) := by
  rcases h with ⟨e | ⟨g, o, c, e, hc⟩, rfl, rfl⟩ | ⟨g, o, c, off, mcap, M, _, e, _, _, h1, h2⟩
  · simp only [Value.slice.injEq] at e
    obtain ⟨rfl, rfl, rfl⟩ := e
    exact ⟨by simp, by unfold maxLen; omega, fun _ => rfl⟩
  · simp only [Value.slice.injEq] at e
    obtain ⟨rfl, rfl, rfl⟩ := e
    exact ⟨by simp, hc, fun h => by cases h⟩
  · simp only [Value.slice.injEq] at e
    obtain ⟨rfl, rfl, rfl⟩ := e
    exact ⟨h1, h2, fun h => by cases h⟩
theorem Lv.lc {W w : World} {v : Value} {L : List E} {rl ll : List Res} (h : Lv v L rl) (hst : St W w ll) (hs : ∀ r ∈ rl, r ∈ ll) : Lc w v L := by
  rcases h with ⟨rfl | ⟨g, o, cap, rfl, _⟩, rfl, rfl⟩ | ⟨g, o, cap, off, mcap, M, rfl, rfl, rfl, rfl, h1, h2⟩
  · exact .inl ⟨.inl rfl, rfl⟩
  · exact .inl ⟨.inr ⟨_, _, rfl⟩, rfl⟩
  · have hrow := hst.mr (t := 45) (v := .slice (some ⟨g, 0, none⟩) (List.length M) mcap) (es := M) (hs _ (by simp))
    by_cases hM : off < M.length
    · obtain ⟨e0, he0⟩ := some_at (es := M) (k := 0) (by omega)
      obtain ⟨g', eg, hgl, _⟩ := hrow.at he0
      cases eg
      refine .inr ⟨g, off * 2, cap, rfl, hgl, h1, h2, fun j e hj => ?_⟩
      rw [List.getElem?_drop] at hj
      obtain ⟨g', eg, _, _, k1, k2, _⟩ := hrow.at hj
      cases eg
      have e1 : (off + j) * 2 = off * 2 + j * 2 := by omega
      rw [e1] at k1 k2
      exact ⟨k1, k2⟩
    · refine .inl ⟨.inr ⟨⟨g, off * 2, none⟩, cap, ?_⟩, List.drop_eq_nil_of_le (by omega)⟩
      rw [List.drop_eq_nil_of_le (by omega)]
      rfl
theorem Lv.addr {a : Option Addr} {len cap : Nat} {L : List E} {rl : List Res} (h : Lv (.slice a len cap) L rl) : (a = none ∧ cap = 0 ∧ L = [] ∧ rl = []) ∨ ∃ g o, a = some ⟨g, o, none⟩ := by
  rcases h with ⟨e | ⟨g, o, c, e, hc⟩, h1, h2⟩ | ⟨g, o, c, off, mcap, M, _, e, _⟩
  · simp only [Value.slice.injEq] at e
    exact .inl ⟨e.1, e.2.2, h1, h2⟩
  · simp only [Value.slice.injEq] at e
    exact .inr ⟨g, o, e.1⟩
  · simp only [Value.slice.injEq] at e
    exact .inr ⟨g, o, e.1⟩
/-- The rest of the list. -/
theorem Lv.rest {g o cap : Nat} {L : List E} {rl : List Res} (h : Lv (.slice (some ⟨g, o, none⟩) L.length cap) L rl) (n : Nat) (hn : n ≤ L.length) (L' : List E) (hL : L' = L.drop n) (o' : Nat) (ho : o' = o + n * 2) (len' : Nat) (hl' : len' = L'.length) (cap' : Nat) (hc : cap' = cap - n) : Lv (.slice (some ⟨g, o', none⟩) len' cap') L' rl := by
  subst hl' hc ho hL
  rcases h with ⟨h | ⟨g', o1, c, e, hc⟩, h1, rfl⟩ | ⟨g', o1, cap1, off, mcap, M, rfl, e, rfl, hM, h1, h2⟩
  · cases h
  · subst h1
    simp only [Value.slice.injEq] at e
    obtain ⟨_, _, rfl⟩ := e
    exact .inl ⟨.inr ⟨g, o + n * 2, cap - n, by simp, by omega⟩, by simp, rfl⟩
  · simp only [Value.slice.injEq, Option.some.injEq, Addr.mk.injEq] at e
    obtain ⟨⟨rfl, rfl, _⟩, _, rfl⟩ := e
    refine .inr ⟨g, off * 2 + n * 2, cap - n, off + n, mcap, M, rfl, rfl, by omega, by rw [hM, List.drop_drop], by simp; omega, by omega⟩
theorem rput_e (w : World) {v : Value} {L T : List E} (h : Lc w v L) (hl : L.length ≤ 99999) (hsL : Srt L) (n : ByteArray) (t : Int) (hT : Hid (putE ⟨n, t⟩ L = T)) : Calls Try.prog 28 #[v, .agg #[.string n, .int .u64 t]] w fun r w' => ∃ a cap, r = .returned (.slice a T.length cap) ∧ Rw 45 w' (.slice a T.length cap) T ∧ w.grownBy w' none ∧ ∀ k, (Value.slice a T.length cap).ownBlock = some k → w.heap.size ≤ k := by
  have hlen : T.length = (delN n L).length + 1 := by rw [← hT.out, putE_len hsL]
  have := rput_any w h hl hsL ⟨n, t⟩ (D := delN n L) ⟨rfl⟩
  rw [hT.out, ← hlen] at this
  exact this
theorem rdue_e (w : World) {v : Value} {L A : List E} (h : Lc w v L) (hl : L.length ≤ 100000) (now : Int) (hA : Hid (tkN now L = A)) : Calls Try.prog 34 #[v, .int .u64 now] w fun r w' => r = .returned (.int .i64 A.length) ∧ w' = w := by
  obtain ⟨rfl⟩ := hA
  exact rdue_any w h hl now
theorem Lv.fresh {W w : World} {a : Option Addr} {cap : Nat} {L : List E} {l : List Res} (h : St W w (.r 45 (.slice a L.length cap) L :: l)) : ∃ rl, St W w (rl ++ l) ∧ Lv (.slice a L.length cap) L rl := by
  have hrow := h.r
  rcases id hrow.2 with ⟨e, h0⟩ | ⟨g, c, cur, e, _, hg, hn, hm, _⟩
  · have hL : L = [] := List.eq_nil_of_length_eq_zero h0
    subst hL
    exact ⟨[], h.drop, .inl ⟨.inl e, rfl, rfl⟩⟩
  · simp only [Value.slice.injEq] at e
    obtain ⟨rfl, _, rfl⟩ := e
    exact ⟨[_], h, .inr ⟨g, 0, cap, 0, cap, L, rfl, rfl, rfl, by simp, hn, hm⟩⟩
/-- The document's wheel: its struct's block. -/
abbrev mw (mb : Nat) (nw : Int) (v : Value) : Res := .b mb (.cells #[.int .u64 nw, v] 29 (0, 0))
/-- A law's memory with a wheel and the document's wheel. -/
def Dw (W w : World) (mb : Nat) (nw : Int) (L : List E) (l : List Res) : Prop := ∃ v rl, Lv v L rl ∧ St W w (mw mb nw v :: rl ++ l)
theorem Dw.start {W w : World} {mb : Nat} {nw : Int} {l : List Res} (h : St W w (mw mb nw (.slice none 0 0) :: l)) : Dw W w mb nw [] l := ⟨_, [], .inl ⟨.inl rfl, rfl, rfl⟩, h⟩
theorem Dw.below {W w : World} {mb : Nat} {nw : Int} {L : List E} {l : List Res} (h : Dw W w mb nw L l) : Below W.heap.size W w := by obtain ⟨v, rl, _, h2⟩ := h; exact h2.2
theorem Dw.grown {W w w' : World} {mb : Nat} {nw : Int} {L : List E} {l : List Res} (h : Dw W w mb nw L l) (hg : w.grownBy w' none) : Dw W w' mb nw L l := by obtain ⟨v, rl, h1, h2⟩ := h; exact ⟨v, rl, h1, h2.grown hg⟩
/-- What else a law has. -/
theorem Dw.rest {W w : World} {mb : Nat} {nw : Int} {L : List E} {l : List Res} (h : Dw W w mb nw L l) : ∃ k : List Res, St W w (l ++ k) ∧ ∀ (w' : World) (l' : List Res), St W w' (l' ++ k) → Dw W w' mb nw L l' := by
  obtain ⟨v, rl, h1, h2⟩ := h
  refine ⟨mw mb nw v :: rl, h2.perm List.perm_append_comm, fun w' l' h' => ⟨v, rl, h1, h'.perm List.perm_append_comm⟩⟩
theorem Dw.cells {W w : World} {mb : Nat} {nw : Int} {L : List E} {l : List Res} (h : Dw W w mb nw L l) : ∃ a cap, Lc w (.slice a L.length cap) L ∧ w.cell? ⟨mb, 0, none⟩ = some (.int .u64 nw) ∧ w.cell? ⟨mb, 1, none⟩ = some (.slice a L.length cap) ∧ ∀ i, w.frozen? ⟨mb, i, none⟩ = false := by
  obtain ⟨v, rl, h1, h2⟩ := h
  obtain ⟨a, cap, rfl⟩ := h1.shape
  obtain ⟨c0, c1, fz⟩ := own_b (St.b (l := rl ++ l) h2)
  exact ⟨a, cap, h1.lc h2 (fun r hr => by simp [hr]), c0, c1, fz⟩
set_option maxRecDepth 100000 in
set_option maxHeartbeats 1000000 in
/-- belfryref07.Wheel.Put. -/
theorem rwput_s {W w : World} {mb : Nat} {nw : Int} {L T : List E} {l : List Res} (h : Dw W w mb nw L l) (hs : Srt L) (hl : L.length ≤ 99999) (n : ByteArray) (t : Int) {b : Bool} (hb : Hid (decide (nw < t) = b)) (hT : Hid (putA nw ⟨n, t⟩ L = T)) :
    Calls Try.prog 12 #[.pointer (some ⟨mb, 0, none⟩), .string n, .int .u64 t] w fun r w' => r = .returned (.bool b) ∧ Dw W w' mb nw T l := by
  obtain ⟨a, cap, hLc, c0, c1, fz⟩ := h.cells
  by_cases hlt : nw < t
  · have e1 : b = true := by rw [← hb.out]; simpa using hlt
    have e2 : putE ⟨n, t⟩ L = T := by rw [← hT.out]; simp [putA, hlt]
    subst e1
    have hd : decide (t ≤ nw) = false := by simp; omega
    have hfz1 := fz 1
    clear hlt
    go_enter Try.func12, Try.ntmps12
    go_wp2_with fail
    refine (rput_e w hLc hl hs n t ⟨e2⟩).mono ?_
    rintro r w1 ⟨a1, k1, rfl, hr, hg, hn⟩
    have hmb : mb < w.heap.size := World.block_lt_of_cell? w _ c0
    have c1' := grown_cell hg c1
    have hfz2 : w1.frozen? ⟨mb, 1, none⟩ = false := by rw [grown_frozen hg hmb]; exact hfz1
    obtain ⟨v, rl, h1, h2⟩ := h
    have h3 : St W w1 (.r 45 (.slice a1 T.length k1) T :: mw mb nw v :: (rl ++ l)) := h2.row hg hr hn
    have h4 := h3.swap
    have hb4 := h4.b
    have h5 : St W (w1.setCell ⟨mb, 1, none⟩ (.slice a1 T.length k1)) (mw mb nw (.slice a1 T.length k1) :: .r 45 (.slice a1 T.length k1) T :: (rl ++ l)) := h4.put (grown_setCell w1 ⟨mb, 1, none⟩ _) (by rw [heap_set hb4 1 _]; rfl)
    have h6 : St W (w1.setCell ⟨mb, 1, none⟩ (.slice a1 T.length k1)) (.r 45 (.slice a1 T.length k1) T :: mw mb nw (.slice a1 T.length k1) :: l) := h5.swap.sub (List.Sublist.cons_cons _ (List.Sublist.cons_cons _ (List.sublist_append_right _ _)))
    obtain ⟨rl2, h7, h8⟩ := Lv.fresh h6
    have hD : Hid (Dw W (w1.setCell ⟨mb, 1, none⟩ (.slice a1 T.length k1)) mb nw T l) := ⟨_, rl2, h8, h7.perm List.perm_middle⟩
    replace hr : Hid _ := ⟨hr⟩
    replace hn : Hid _ := ⟨hn⟩
    clear h2 h3 h4 h5 h6 h7 hb4 c0 c1
    go_wp2
    go_ret
    exact ⟨rfl, hD.out⟩
  · have e1 : b = false := by rw [← hb.out]; simpa using hlt
    have e2 : T = L := by rw [← hT.out]; simp [putA, hlt]
    subst e1 e2
    have hd : decide (t ≤ nw) = true := by simp; omega
    go_enter Try.func12, Try.ntmps12
    go_wp2
    go_ret
    exact ⟨rfl, h⟩
set_option maxRecDepth 100000 in
set_option maxHeartbeats 1000000 in
/-- belfryref07.Wheel.Drop. -/
theorem rwdrop_s {W w : World} {mb : Nat} {nw : Int} {L T : List E} {l : List Res} (h : Dw W w mb nw L l) (hl : L.length ≤ 99999) (n : ByteArray) {b : Bool} (hb : Hid (hasN n L = b)) (hT : Hid (delN n L = T)) :
    Calls Try.prog 14 #[.pointer (some ⟨mb, 0, none⟩), .string n] w fun r w' => r = .returned (.bool b) ∧ Dw W w' mb nw T l := by
  obtain ⟨a, cap, hLc, c0, c1, fz⟩ := h.cells
  have hfz1 := fz 1
  have hmb : mb < w.heap.size := World.block_lt_of_cell? w _ c0
  go_enter Try.func14, Try.ntmps14
  go_wp2_with fail
  refine (find_any w hLc (by omega) n).mono ?_
  rintro r w0 ⟨i, rfl, hi, rfl⟩
  obtain ⟨bb, hbb⟩ : ∃ bb, decide (i ≥ 0) = bb := ⟨_, rfl⟩
  have hbe : Hid (bb = b) := ⟨by rw [← hbb, hi.out, hb.out]⟩
  have hbb2 : decide (0 ≤ i) = bb := hbb
  go_wp2_with fail
  refine (rdrop_e w0 hLc (by omega) n hT).mono ?_
  rintro r w1 ⟨a1, k1, rfl, hr, hg, hn⟩
  have c1' := grown_cell hg c1
  have hfz2 : w1.frozen? ⟨mb, 1, none⟩ = false := by rw [grown_frozen hg hmb]; exact hfz1
  obtain ⟨v, rl, h1, h2⟩ := h
  have h3 : St W w1 (.r 45 (.slice a1 T.length k1) T :: mw mb nw v :: (rl ++ l)) := h2.row hg hr hn
  have h4 := h3.swap
  have hb4 := h4.b
  have h5 : St W (w1.setCell ⟨mb, 1, none⟩ (.slice a1 T.length k1)) (mw mb nw (.slice a1 T.length k1) :: .r 45 (.slice a1 T.length k1) T :: (rl ++ l)) := h4.put (grown_setCell w1 ⟨mb, 1, none⟩ _) (by rw [heap_set hb4 1 _]; rfl)
  have h6 : St W (w1.setCell ⟨mb, 1, none⟩ (.slice a1 T.length k1)) (.r 45 (.slice a1 T.length k1) T :: mw mb nw (.slice a1 T.length k1) :: l) := h5.swap.sub (List.Sublist.cons_cons _ (List.Sublist.cons_cons _ (List.sublist_append_right _ _)))
  obtain ⟨rl2, h7, h8⟩ := Lv.fresh h6
  have hD : Hid (Dw W (w1.setCell ⟨mb, 1, none⟩ (.slice a1 T.length k1)) mb nw T l) := ⟨_, rl2, h8, h7.perm List.perm_middle⟩
  replace hr : Hid _ := ⟨hr⟩
  replace hn : Hid _ := ⟨hn⟩
  clear h2 h3 h4 h5 h6 h7 hb4 c0 c1
  go_wp2
  go_ret
  exact ⟨by rw [← hbe.out]; rfl, hD.out⟩
end Go.Proofs.Ytlljfgpmjpmoiaa
