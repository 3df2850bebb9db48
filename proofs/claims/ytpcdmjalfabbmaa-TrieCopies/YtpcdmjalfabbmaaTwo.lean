/- Two tries side by side, one of them with its entries in a row; lists of texts. -/
import Derived.Test.YtpcdmjalfabbmaaMcc
namespace Go.Proofs.Ytpcdmjalfabbmaa
open Go.RowKit Go.IntWalk Go.Maps Go.Shelf
set_option linter.unusedVariables false
/-- A slice v of texts, in a block below n₀. -/
def Strs (n₀ : Nat) (W : World) (v : Value) (ks : List K) : Prop :=
  ((v = .slice none 0 0 ∨ ∃ ad cap, v = .slice (some ad) 0 cap) ∧ ks = []) ∨ ∃ b off cap, v = .slice (some ⟨b, off, none⟩) ks.length cap ∧ b < n₀ ∧ ks.length ≤ cap ∧ cap ≤ maxLen ∧
    ∀ (j : Nat) (k : K), ks[j]? = some k → k.length ≤ maxLen ∧ W.cell? ⟨b, off + j, none⟩ = some (.string (bt k))
theorem Strs.shape {n₀ : Nat} {W : World} {v : Value} {ks : List K} (h : Strs n₀ W v ks) : ∃ a cap, v = .slice a ks.length cap ∧ ks.length ≤ maxLen := by
  obtain ⟨rfl | ⟨ad, cap, rfl⟩, rfl⟩ | ⟨b, off, cap, rfl, _, h1, h2, _⟩ := id h
  · exact ⟨_, _, rfl, by simp⟩
  · exact ⟨_, _, rfl, by simp⟩
  · exact ⟨_, _, rfl, by omega⟩
theorem Strs.below {n₀ : Nat} {A B : World} (h : Below n₀ A B) {v : Value} {ks : List K} (k : Strs n₀ A v ks) : Strs n₀ B v ks := by
  rcases k with e | ⟨b, off, cap, e, hb, hl, hm, hc⟩
  · exact .inl e
  · exact .inr ⟨b, off, cap, e, hb, hl, hm, fun j x hj => ⟨(hc j x hj).1, (h.cell (p := ⟨b, off + j, none⟩) hb).trans (hc j x hj).2⟩⟩
theorem Strs.at {n₀ : Nat} {W : World} {a : Option Addr} {len cap : Nat} {ks : List K} (h : Strs n₀ W (.slice a len cap) ks) {j : Nat} {k : K} (hj : ks[j]? = some k) :
    ∃ b off, a = some ⟨b, off, none⟩ ∧ b < n₀ ∧ k.length ≤ maxLen ∧ W.cell? ⟨b, off + j, none⟩ = some (.string (bt k)) := by
  obtain ⟨_, rfl⟩ | ⟨b, off, c, e, hb, hl, hm, hc⟩ := h
  · simp at hj
  · simp only [Value.slice.injEq] at e
    exact ⟨b, off, e.1, hb, hc j k hj⟩
/-- Two tries: the first one's entries L, the second one's M, and a row ls of the first one's. -/
structure Twt (W w : World) (tb ub : Nat) (L M : List E) (ls : Value) : Prop where
  ex : ∃ St Su : Nat → Prop, Tri St w tb L ∧ Tri Su w ub M ∧ (∀ j, St j → W.heap.size ≤ j ∧ j < w.heap.size) ∧ (∀ j, Su j → W.heap.size ≤ j ∧ j < w.heap.size) ∧ (∀ j, St j → ¬ Su j) ∧ ∀ g, ls.ownBlock = some g → ¬ Su g
  row : Rw 46 w ls L
  g : W.grownBy w none
section
variable {W w w' : World} {tb ub : Nat} {L M : List E} {ls : Value}
theorem Twt.keep (h : Twt W w tb ub L M ls) (hg : w.grownBy w' none) : Twt W w' tb ub L M ls := by
  obtain ⟨St, Su, h1, h2, h3, h4, h5, h6⟩ := h.ex
  have := hg.size
  exact ⟨⟨St, Su, h1.keep hg, h2.keep hg, fun j hj => ⟨(h3 j hj).1, by have := (h3 j hj).2; omega⟩, fun j hj => ⟨(h4 j hj).1, by have := (h4 j hj).2; omega⟩, h5, h6⟩, World.ownsRow.kept h.row hg (Classical.em _), grown_none h.g hg⟩
theorem Twt.srtL (h : Twt W w tb ub L M ls) : Srt L := by obtain ⟨St, Su, h1, _⟩ := h.ex; exact h1.srt
theorem Twt.srtM (h : Twt W w tb ub L M ls) : Srt M := by obtain ⟨St, Su, _, h2, _⟩ := h.ex; exact h2.srt
theorem Twt.below (h : Twt W w tb ub L M ls) : Below W.heap.size W w := below_of h.g
theorem Twt.rowlt (h : Twt W w tb ub L M ls) {g : Nat} (hg : ls.ownBlock = some g) : g < w.heap.size := by
  rcases h.row.2 with ⟨e, _⟩ | ⟨g', cp, cur, e, _, hg6, _⟩
  · rw [e] at hg; cases hg
  · rw [e] at hg
    simp only [Value.ownBlock, Option.some.injEq] at hg
    subst hg
    exact (Array.getElem?_eq_some_iff.1 hg6).1
theorem two_put (h : Twt W w tb ub L M ls) (k : K) (v : ByteArray) (hk : k.length ≤ 100000) (hl : M.length < 100000) : Calls Try.prog 12 #[ptr ub, .string (bt k), .string v] w fun r w' => (∃ x y, r = .returned (.tuple #[x, y])) ∧ Twt W w' tb ub L (putE ⟨k, v⟩ M) ls := by
  obtain ⟨St, Su, h1, h2, h3, h4, h5, h6⟩ := h.ex
  refine (put_any w h2 k v hk hl).mono ?_
  rintro r w' ⟨rfl, h7, h8⟩
  have hsz := h8.size
  have hgs := h.g.size
  refine ⟨⟨_, _, rfl⟩, ⟨St, _, h1.kept fun j hj hj2 => h8.block j hj2 (h5 j hj), h7, fun j hj => ⟨(h3 j hj).1, by have := (h3 j hj).2; omega⟩, fun j hj => ?_, fun j hj hj2 => ?_, fun g hg hj2 => ?_⟩, Rw.kept h.row fun g hg => h8.block g (h.rowlt hg) (h6 g hg), h8.none h.g fun j hj => (h4 j hj).1⟩
  · rcases hj with hj | hj
    · have := h4 j hj; omega
    · omega
  · rcases hj2 with h | h
    · exact h5 j hj h
    · have := (h3 j hj).2; omega
  · rcases hj2 with h' | h'
    · exact h6 g hg h'
    · have := h.rowlt hg; omega
theorem two_drop (h : Twt W w tb ub L M ls) (k : K) (hk : k.length ≤ 9223372036854775807) {o : Option ByteArray} (ho : Hid (gt M k = o)) : Calls Try.prog 14 #[ptr ub, .string (bt k)] w fun r w' => r = .returned (.tuple #[.string (vOf o), .bool o.isSome]) ∧ Twt W w' tb ub L (delE k M) ls := by
  obtain ⟨St, Su, h1, h2, h3, h4, h5, h6⟩ := h.ex
  refine (drop_any w h2 k hk ho).mono ?_
  rintro r w' ⟨rfl, h7, h8⟩
  have hsz := h8.size
  exact ⟨rfl, ⟨St, Su, h1.kept fun j hj hj2 => h8.block j hj2 (h5 j hj), h7, fun j hj => ⟨(h3 j hj).1, by have := (h3 j hj).2; omega⟩, fun j hj => ⟨(h4 j hj).1, by have := (h4 j hj).2; omega⟩, h5, h6⟩, Rw.kept h.row fun g hg => h8.block g (h.rowlt hg) (h6 g hg), h8.none h.g fun j hj => (h4 j hj).1⟩
theorem two_get (h : Twt W w tb ub L M ls) (k : K) (hk : k.length ≤ 9223372036854775807) {o : Option ByteArray} (ho : Hid (gt L k = o)) : Calls Try.prog 26 #[ptr tb, .string (bt k)] w fun r w' => r = .returned (.tuple #[.string (vOf o), .bool o.isSome]) ∧ Twt W w' tb ub L M ls := by
  obtain ⟨St, Su, h1, _⟩ := h.ex
  refine (get_any w h1 k hk ho).mono ?_
  rintro r w' ⟨rfl, hg⟩
  exact ⟨rfl, h.keep hg⟩
theorem two_walk (h : Twt W w tb ub L M ls) {es : List E} (he : Hid (M.take 120 = es)) : Calls Try.prog 19 #[ptr ub, .string { data := #[] }, .int .i64 120] w fun r w' => ∃ a cap, r = .returned (.slice a es.length cap) ∧ Rw 46 w' (.slice a es.length cap) es ∧ Twt W w' tb ub L M ls := by
  obtain ⟨St, Su, h1, h2, _⟩ := h.ex
  have := walk_e pdq256 (by omega) h2 (fun ks hn _ => bytes_le hn) [] (by simp) 120 (es := es) ⟨by rw [sub_nil]; exact he.out⟩
  rw [bt_nil] at this
  refine this.mono ?_
  rintro r w' ⟨a, cap, rfl, hr, hg⟩
  exact ⟨a, cap, rfl, rw_of hr, h.keep hg⟩
theorem two_nodesU (h : Twt W w tb ub L M ls) {z : Nat} (hz : Hid (nds M = z)) : Calls Try.prog 22 #[ptr ub] w fun r w' => r = .returned (.int .i64 z) ∧ w' = w := by
  obtain ⟨St, Su, _, h2, _⟩ := h.ex
  exact nodes_any w h2 hz
theorem two_nodesT (h : Twt W w tb ub L M ls) {z : Nat} (hz : Hid (nds L = z)) : Calls Try.prog 22 #[ptr tb] w fun r w' => r = .returned (.int .i64 z) ∧ w' = w := by
  obtain ⟨St, Su, h1, _⟩ := h.ex
  exact nodes_any w h1 hz
theorem two_lenU (h : Twt W w tb ub L M ls) {z : Nat} (hz : Hid (M.length = z)) : Calls Try.prog 21 #[ptr ub] w fun r w' => r = .returned (.int .i64 z) ∧ w' = w := by
  obtain ⟨St, Su, _, h2, _⟩ := h.ex
  rw [← hz.out]
  exact len_any w h2
end
/-- What the second trie has beside the first one's: keys of these texts. -/
theorem two_end {L M : List E} (hL : Srt L) (hM : Srt M) (h1 : ∀ x ∈ L, x ∈ M) (h2 : ∀ x ∈ M, x ∈ L) : M = L := hM.eq hL fun x => ⟨h2 x, h1 x⟩
theorem del_step {L : List E} (h : Srt L) {i : Nat} {x : E} (hx : L[i]? = some x) : delE x.k (L.drop i) = L.drop (i + 1) ∧ gt (L.drop i) x.k = some x.v ∧ gt (L.drop (i + 1)) x.k = none := by
  have hi := (List.getElem?_eq_some_iff.1 hx).1
  have e : L.drop i = x :: L.drop (i + 1) := by
    rw [List.drop_eq_getElem_cons hi]
    congr 1
    exact (List.getElem?_eq_some_iff.1 hx).2
  have hs : Srt (L.drop i) := h.sub (List.drop_sublist i L)
  rw [e] at hs
  obtain ⟨h1, h2⟩ := List.pairwise_cons.1 hs
  have hno : ∀ y ∈ L.drop (i + 1), y.k ≠ x.k := fun y hy e' => k_lt_irrefl x.k (by have := h1 y hy; rw [e'] at this; exact this)
  refine ⟨?_, ?_, ?_⟩
  · rw [e]
    simp only [delE, List.filter_cons, decide_true, Bool.not_true]
    exact List.filter_eq_self.2 fun y hy => by simp [hno y hy]
  · rw [e]; simp [gt]
  · cases hg : gt (L.drop (i + 1)) x.k with
    | none => rfl
    | some v => exact absurd rfl (hno ⟨x.k, v⟩ (gt_some hg))
end Go.Proofs.Ytpcdmjalfabbmaa
