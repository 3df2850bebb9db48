/- The document's list as a law holds it: a row of its own, or its rest. -/
import Derived.Test.YtipcoghhnbgalaaStw
namespace Go.Proofs.Ytipcoghhnbgalaa
open Go.RowKit Go.IntWalk Go.Maps
set_option linter.unusedVariables false
theorem Mem.sub {w : World} {l l' : List Res} (hs : l'.Sublist l) : ∀ {U : Nat → Prop}, Mem w U l → Mem w U l' := by
  induction hs with
  | slnil => intro U h; exact h
  | cons x _ ih => rintro U ⟨S, h1, h2, h3⟩; exact (ih h3).less fun k _ e => .inl e
  | cons_cons x _ ih => rintro U ⟨S, h1, h2, h3⟩; exact ⟨S, h1, h2, ih h3⟩
theorem St.sub {W w : World} {l l' : List Res} (h : St W w l) (hs : l'.Sublist l) : St W w l' := ⟨h.1.sub hs, h.2⟩
/-- The list L lies in v: it is the rest of a row of the law's own, or nothing. -/
def Lv (v : Value) (L : List E) (rl : List Res) : Prop :=
  ((v = .slice none 0 0 ∨ ∃ g o cap, v = .slice (some ⟨g, o, Option.none⟩) 0 cap ∧ cap ≤ maxLen) ∧ L = [] ∧ rl = []) ∨ ∃ g o cap off mcap M, rl = [.r 33 (.slice (some ⟨g, 0, none⟩) (List.length M) mcap) M] ∧ v = .slice (some ⟨g, o, none⟩) L.length cap ∧ o = off * 2 ∧ L = M.drop off ∧ L.length ≤ cap ∧ cap ≤ maxLen
theorem Lv.shape {v : Value} {L : List E} {rl : List Res} (h : Lv v L rl) : ∃ a cap, v = .slice a L.length cap := by
  rcases h with ⟨rfl | ⟨g, o, cap, rfl, _⟩, rfl, rfl⟩ | ⟨g, o, cap, off, mcap, M, _, rfl, _⟩
  · exact ⟨none, 0, rfl⟩
  · exact ⟨_, _, rfl⟩
  · exact ⟨_, _, rfl⟩
theorem Lv.cap {a : Option Addr} {len cap : Nat} {L : List E} {rl : List Res} (h : Lv (.slice a len cap) L rl) : L.length ≤ cap ∧ cap ≤ maxLen ∧ (a = none → cap = 0) := by
  rcases h with ⟨e | ⟨g, o, c, e, hc⟩, rfl, rfl⟩ | ⟨g, o, c, off, mcap, M, _, e, _, _, h1, h2⟩
  · simp only [Value.slice.injEq] at e
    obtain ⟨rfl, rfl, rfl⟩ := e
    exact ⟨by simp, by unfold maxLen; omega, fun _ => rfl⟩
  · simp only [Value.slice.injEq] at e
    obtain ⟨rfl, rfl, rfl⟩ := e
    exact ⟨by simp, hc, fun h => by cases h⟩
  · simp only [Value.slice.injEq] at e
    obtain ⟨rfl, rfl, rfl⟩ := e
    exact ⟨h1, h2, fun h => by cases h⟩
theorem Lv.lc {W w : World} {v : Value} {L : List E} {rl ll : List Res} (h : Lv v L rl) (hst : St W w ll) (hs : ∀ r ∈ rl, r ∈ ll) : Lc w v L := by
  rcases h with ⟨rfl | ⟨g, o, cap, rfl, _⟩, rfl, rfl⟩ | ⟨g, o, cap, off, mcap, M, rfl, rfl, rfl, rfl, h1, h2⟩
  · exact .inl ⟨.inl rfl, rfl⟩
  · exact .inl ⟨.inr ⟨_, _, rfl⟩, rfl⟩
  · have hrow := hst.mr (t := 33) (v := .slice (some ⟨g, 0, none⟩) (List.length M) mcap) (es := M) (hs _ (by simp))
    by_cases hM : off < M.length
    · obtain ⟨e0, he0⟩ := some_at (es := M) (k := 0) (by omega)
      obtain ⟨g', eg, hgl, _⟩ := hrow.at he0
      cases eg
      refine .inr ⟨g, off * 2, cap, rfl, hgl, h1, h2, fun j e hj => ?_⟩
      rw [List.getElem?_drop] at hj
      obtain ⟨g', eg, _, _, k1, k2, _⟩ := hrow.at hj
      cases eg
      have e1 : (off + j) * 2 = off * 2 + j * 2 := by omega
      rw [e1] at k1 k2
      exact ⟨k1, k2⟩
    · refine .inl ⟨.inr ⟨⟨g, off * 2, none⟩, cap, ?_⟩, List.drop_eq_nil_of_le (by omega)⟩
      rw [List.drop_eq_nil_of_le (by omega)]
      rfl
/-- Nothing is left. -/
theorem Lv.over {W w : World} {qb : Nat} {ll : List Res} (h : St W w (.q qb [] :: ll)) (g o cap : Nat) (hc : cap ≤ maxLen) : St W w (.q qb [] :: []) ∧ Lv (.slice (some ⟨g, o, none⟩) 0 cap) [] [] :=
  ⟨h.sub (by simp), .inl ⟨.inr ⟨_, _, _, rfl, hc⟩, rfl, rfl⟩⟩
theorem Lv.addr {a : Option Addr} {len cap : Nat} {L : List E} {rl : List Res} (h : Lv (.slice a len cap) L rl) : (a = none ∧ cap = 0 ∧ L = [] ∧ rl = []) ∨ ∃ g o, a = some ⟨g, o, none⟩ := by
  rcases h with ⟨e | ⟨g, o, c, e, hc⟩, h1, h2⟩ | ⟨g, o, c, off, mcap, M, _, e, _⟩
  · simp only [Value.slice.injEq] at e
    exact .inl ⟨e.1, e.2.2, h1, h2⟩
  · simp only [Value.slice.injEq] at e
    exact .inr ⟨g, o, e.1⟩
  · simp only [Value.slice.injEq] at e
    exact .inr ⟨g, o, e.1⟩
/-- The rest of the list. -/
theorem Lv.rest {g o cap : Nat} {L : List E} {rl : List Res} (h : Lv (.slice (some ⟨g, o, none⟩) L.length cap) L rl) (n : Nat) (hn : n ≤ L.length) (L' : List E) (hL : L' = L.drop n) (o' : Nat) (ho : o' = o + n * 2) (len' : Nat) (hl' : len' = L'.length) (cap' : Nat) (hc : cap' = cap - n) : Lv (.slice (some ⟨g, o', none⟩) len' cap') L' rl := by
  subst hl' hc ho hL
  rcases h with ⟨h | ⟨g', o1, c, e, hc⟩, h1, rfl⟩ | ⟨g', o1, cap1, off, mcap, M, rfl, e, rfl, hM, h1, h2⟩
  · cases h
  · subst h1
    simp only [Value.slice.injEq] at e
    obtain ⟨_, _, rfl⟩ := e
    exact .inl ⟨.inr ⟨g, o + n * 2, cap - n, by simp, by omega⟩, by simp, rfl⟩
  · simp only [Value.slice.injEq, Option.some.injEq, Addr.mk.injEq] at e
    obtain ⟨⟨rfl, rfl, _⟩, _, rfl⟩ := e
    refine .inr ⟨g, off * 2 + n * 2, cap - n, off + n, mcap, M, rfl, rfl, by omega, by rw [hM, List.drop_drop], by simp; omega, by omega⟩
theorem Lv.fresh {W w : World} {a : Option Addr} {cap : Nat} {L : List E} {qb : Nat} {ll : List Res} (h : St W w (.r 33 (.slice a L.length cap) L :: .q qb L :: ll)) : ∃ rl, St W w (.q qb L :: rl) ∧ Lv (.slice a L.length cap) L rl := by
  have hrow := h.r
  have h2 : St W w [.r 33 (.slice a L.length cap) L, .q qb L] := h.sub (by simp)
  rcases id hrow.2 with ⟨e, h0⟩ | ⟨g, c, cur, e, _, hg, hn, hm, _⟩
  · have hL : L = [] := List.eq_nil_of_length_eq_zero h0
    subst hL
    exact ⟨[], h2.drop, .inl ⟨.inl e, rfl, rfl⟩⟩
  · simp only [Value.slice.injEq] at e
    obtain ⟨rfl, _, rfl⟩ := e
    exact ⟨_, h2.swap, .inr ⟨g, 0, cap, 0, cap, L, rfl, rfl, rfl, by simp, hn, hm⟩⟩
theorem rput_e (w : World) {v : Value} {L T : List E} (h : Lc w v L) (hl : L.length ≤ 99999) (hsL : Srt L) (n : ByteArray) (t : Int) (hT : Hid (putE ⟨n, t⟩ L = T)) : Calls Try.prog 12 #[v, .agg #[.string n, .int .u64 t]] w fun r w' => ∃ a cap, r = .returned (.slice a T.length cap) ∧ Rw 33 w' (.slice a T.length cap) T ∧ w.grownBy w' none ∧ ∀ k, (Value.slice a T.length cap).ownBlock = some k → w.heap.size ≤ k := by
  have hlen : T.length = (delN n L).length + 1 := by rw [← hT.out, putE_len hsL]
  have := rput_any w h hl hsL ⟨n, t⟩ (D := delN n L) ⟨rfl⟩
  rw [hT.out, ← hlen] at this
  exact this
theorem rdue_e (w : World) {v : Value} {L A : List E} (h : Lc w v L) (hl : L.length ≤ 100000) (now : Int) (hA : Hid (tkN now L = A)) : Calls Try.prog 18 #[v, .int .u64 now] w fun r w' => r = .returned (.int .i64 A.length) ∧ w' = w := by
  obtain ⟨rfl⟩ := hA
  exact rdue_any w h hl now
theorem St.row {W w w' : World} {l : List Res} (h : St W w l) (hg : w.grownBy w' none) {v : Value} {es : List E} (hr : Rw 33 w' v es) (hn : ∀ k, v.ownBlock = some k → w.heap.size ≤ k) : St W w' (.r 33 v es :: l) :=
  h.new hg _ ⟨hr, fun k hk => ⟨hn k hk, (hr.lt k hk).2⟩⟩
end Go.Proofs.Ytipcoghhnbgalaa
