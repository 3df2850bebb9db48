/- What two leaps tell is what one tells; two rows behind one another. -/
import Derived.Test.YtlljfgpmjpmoiaaScr
import Derived.Deep.Upon
import Derived.Laws.StructEq
namespace Go.Proofs.Ytlljfgpmjpmoiaa
open Go.RowKit Go.IntWalk Go.Maps Go.Shelf
set_option linter.unusedVariables false
set_option maxRecDepth 100000 in
theorem neq52 (n : ByteArray) (a : Int) (w : World) : (binOp .neq 52 (.agg #[.string n, .int .u64 a]) (.agg #[.string n, .int .u64 a])).run Try.prog w = .ok (.bool false) w := by
  go_simp
theorem two_leaps {L : List E} (hs : Srt L) {m e : Int} (hme : m ≤ e) : due m L ++ due e (rst m L) = due e L ∧ rst e (rst m L) = rst e L := by
  constructor
  · refine Srt.eq ⟨?_, fun x hx y hy en => ?_⟩ (hs.due e) fun x => ?_
    · refine List.pairwise_append.2 ⟨(hs.due m).up, ((hs.rst m).due e).up, fun x hx y hy => ?_⟩
      have h1 := (mem_due.1 hx).2
      have h2 := (mem_rst.1 (mem_due.1 hy).1).2
      exact .inl (by omega)
    · have hL : ∀ z, z ∈ due m L ++ due e (rst m L) → z ∈ L := fun z hz => by
        rcases List.mem_append.1 hz with h | h
        · exact (mem_due.1 h).1
        · exact (mem_rst.1 (mem_due.1 h).1).1
      exact hs.un x (hL x hx) y (hL y hy) en
    · rw [List.mem_append, mem_due, mem_due, mem_rst, mem_due]
      constructor
      · rintro (⟨h1, h2⟩ | ⟨⟨h1, _⟩, h2⟩)
        · exact ⟨h1, by omega⟩
        · exact ⟨h1, h2⟩
      · rintro ⟨h1, h2⟩
        by_cases h : x.at_ ≤ m
        · exact .inl ⟨h1, h⟩
        · exact .inr ⟨⟨h1, by omega⟩, h2⟩
  · exact ((hs.rst m).rst e).eq (hs.rst e) fun x => by
      rw [mem_rst, mem_rst, mem_rst]
      constructor
      · rintro ⟨⟨h1, _⟩, h2⟩; exact ⟨h1, h2⟩
      · rintro ⟨h1, h2⟩; exact ⟨⟨h1, by omega⟩, h2⟩
/-- 'append(l, m...)' of two rows of one's own. -/
theorem app_s {W w : World} {a1 a2 : Option Addr} {c1 c2 : Nat} {A1 A2 : List E} {l : List Res} (h : St W w (.r 52 (.slice a1 A1.length c1) A1 :: .r 52 (.slice a2 A2.length c2) A2 :: l)) (hl : A1.length + A2.length ≤ 1000000) :
    ∃ a c w', (Builtin.append_ #[36, 36] 36 #[.slice a1 A1.length c1, .slice a2 A2.length c2]).run Try.prog w = .ok (.slice a (A1 ++ A2).length c) w' ∧ St W w' (.r 52 (.slice a (A1 ++ A2).length c) (A1 ++ A2) :: .r 52 (.slice a2 A2.length c2) A2 :: l) := by
  have hr1 := h.r
  have hr2 : Rw 52 w (.slice a2 A2.length c2) A2 := h.swap.r
  obtain ⟨S, h1, h2, h3⟩ := h.headK
  rcases id hr2.2 with ⟨e, h0⟩ | ⟨g, c, cur, e, _⟩
  · simp only [Value.slice.injEq] at e
    obtain ⟨rfl, _, rfl⟩ := e
    have hA2 : A2 = [] := List.eq_nil_of_length_eq_zero h0
    subst hA2
    obtain ⟨i0, hi, hz0, hz1, hz2⟩ := info_parts Try.info52
    have hcap : A1.length ≤ c1 := by
      rcases hr1.2 with ⟨e, h0⟩ | ⟨g, c, cur, e, _, _, hn, _⟩
      · simp only [Value.slice.injEq] at e
        omega
      · simp only [Value.slice.injEq] at e
        omega
    refine ⟨a1, c1, w, ?_, ?_⟩
    · have := run_append_nothing (P := Try.prog) w 36 36 36 52 i0 Try.underlying36 hi a1 A1.length c1 hcap (.slice none 0 0) (Src.ofNil w Try.underlying36 0)
      simpa using this
    · simpa using h
  · simp only [Value.slice.injEq] at e
    obtain ⟨rfl, _, _⟩ := e
    obtain ⟨a, ca, w', hrun, hr, hg, ho⟩ := run_append_ts w (.slice a1 A1.length c1) A1 A2 g c2 hr2 hr1 hl 36
    refine ⟨a, ca, w', hrun, h3 w' (.r 52 (.slice a (A1 ++ A2).length ca) (A1 ++ A2)) (Kp.of hg fun j hj => h1.2 j hj) ⟨hr, fun j hj => ?_⟩⟩
    rcases ho with ho | ⟨i, hi, hil⟩
    · exact .inl (h1.2 j (by rw [← ho]; exact hj))
    · rw [hi] at hj
      cases hj
      exact .inr ⟨hil, (hr.lt _ hi).2⟩
end Go.Proofs.Ytlljfgpmjpmoiaa
