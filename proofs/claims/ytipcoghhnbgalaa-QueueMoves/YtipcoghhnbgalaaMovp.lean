/- What QueueMoves does to entries: plain facts; a row appended to beside what else a law has. -/
import Derived.Test.YtipcoghhnbgalaaAnyp
namespace Go.Proofs.Ytipcoghhnbgalaa
open Go.RowKit Go.IntWalk Go.Maps
set_option linter.unusedVariables false
theorem St.append {W w : World} {rv : Value} {es : List E} {l : List Res} (h : St W w (.r 36 rv es :: l)) (e : E) (hl : es.length ≤ 100000) (ty : TypeId) :
    ∃ a cap w', (Builtin.append_ #[40, 40] ty #[rv, .slice (some ⟨w.heap.size, 0, none⟩) 1 1]).run Try.prog (w.alloc (.cells #[.string e.n, .int .u64 e.at_] 36)) = .ok (.slice a (es.length + 1) cap) w' ∧ St W w' (.r 36 (.slice a (es ++ [e]).length cap) (es ++ [e]) :: l) := by
  obtain ⟨S, h1, h2, h3⟩ := h.headK
  obtain ⟨a, cap, w', hrun, hr, hg, ho⟩ := run_append_entry w rv es e h1.1 hl ty
  have hlen : (es ++ [e]).length = es.length + 1 := by simp
  refine ⟨a, cap, w', hrun, h3 w' _ (Kp.of hg fun k hk => h1.2 k hk) ?_⟩
  rw [hlen]
  refine ⟨hr, fun k hk => ?_⟩
  rcases ho with ho | ⟨j, hj, hjl⟩
  · exact .inl (h1.2 k (by rw [← ho]; exact hk))
  · rw [hj] at hk; cases hk; exact .inr ⟨hjl, (hr.lt _ hj).2⟩
theorem str_beq' {a b : ByteArray} : (a.toList == b.toList) = decide (a = b) := by
  rw [Bool.eq_iff_iff]
  simp only [beq_iff_eq, decide_eq_true_eq]
  exact ⟨ba_inj, fun h => by rw [h]⟩
theorem del_put (x : E) {L : List E} (h : Srt L) : delN x.n (putE x L) = delN x.n L := by
  refine ((h.put x).del _).eq (h.del _) fun y => ?_
  rw [mem_delN, mem_delN, mem_putE]
  constructor
  · rintro ⟨h1 | h1, h2⟩
    · subst h1; exact absurd rfl h2
    · exact h1
  · intro h1
    exact ⟨.inr h1, h1.2⟩
theorem del_len {L : List E} (h : Srt L) {x : E} (hx : x ∈ L) : (delN x.n L).length + 1 = L.length := by
  have h1 : (x :: delN x.n L).Nodup := List.nodup_cons.2 ⟨fun hc => (mem_delN.1 hc).2 rfl, (h.del _).nodup⟩
  have := len_mem h1 h.nodup fun y => by
    rw [List.mem_cons, mem_delN]
    constructor
    · rintro (rfl | h2)
      · exact hx
      · exact h2.1
    · intro hy
      by_cases e : y.n = x.n
      · exact .inl (h.un y hy x hx e)
      · exact .inr ⟨hy, e⟩
  simpa using this
theorem put_len {L : List E} (h : Srt L) {x : E} (hx : x ∈ L) (t : Int) : (putE ⟨x.n, t⟩ L).length = L.length := by
  rw [putE_len h]
  show (delN x.n L).length + 1 = L.length
  exact del_len h hx
theorem put_back {L : List E} (h : Srt L) {x : E} (hx : x ∈ L) (t : Int) : putE x (putE ⟨x.n, t⟩ L) = L := by
  refine ((h.put _).put _).eq h fun y => ?_
  rw [mem_putE, mem_putE]
  constructor
  · rintro (rfl | ⟨h1 | h1, h2⟩)
    · exact hx
    · subst h1; exact absurd rfl h2
    · exact h1.1
  · intro hy
    by_cases e : y.n = x.n
    · exact .inl (h.un y hy x hx e)
    · exact .inr ⟨.inr ⟨hy, e⟩, e⟩
theorem delN_cons_ne {n : ByteArray} {f : E} {L : List E} (h : f.n ≠ n) : delN n (f :: L) = f :: delN n L := by simp [delN, h]
theorem delN_cons_eq {n : ByteArray} {f : E} {L : List E} (h : f.n = n) : delN n (f :: L) = delN n L := by simp [delN, h]
end Go.Proofs.Ytipcoghhnbgalaa
