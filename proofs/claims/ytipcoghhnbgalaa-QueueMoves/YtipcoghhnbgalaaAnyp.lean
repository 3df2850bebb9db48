/- What QueueAny puts: plain facts. -/
import Derived.Test.YtipcoghhnbgalaaDuep
namespace Go.Proofs.Ytipcoghhnbgalaa
set_option linter.unusedVariables false
/-- Behind the first puts: names from place j on, all with one deadline. -/
structure P1 (L : List E) (t : Int) (j : Nat) (P : List E) : Prop where
  srt : Srt P
  mem : ∀ x, x ∈ P ↔ ∃ e ∈ L.drop j, x = ⟨e.n, t⟩
  len : P.length ≤ L.length - j
theorem P1.start (L : List E) (t : Int) : P1 L t L.length [] := ⟨Srt.nil, fun x => by simp, by simp⟩
theorem P1.step {L : List E} {t : Int} {j : Nat} {P : List E} (hL : Srt L) (h : P1 L t (j + 1) P) {f : E} (hf : L[j]? = some f) : P1 L t j (putE ⟨f.n, t⟩ P) := by
  have hjl := (List.getElem?_eq_some_iff.1 hf).1
  have hd : L.drop j = f :: L.drop (j + 1) := by
    obtain ⟨g, hg, h2⟩ := drop_cons hjl
    rw [hf] at hg; cases hg; exact h2
  refine ⟨h.srt.put _, fun x => ?_, ?_⟩
  · rw [mem_putE, h.mem, hd]
    constructor
    · rintro (h1 | ⟨⟨e, he, h1⟩, _⟩)
      · exact ⟨f, by simp, h1⟩
      · exact ⟨e, by simp [he], h1⟩
    · rintro ⟨e, he, h1⟩
      rcases List.mem_cons.1 he with rfl | he2
      · exact .inl h1
      · refine .inr ⟨⟨e, he2, h1⟩, fun hn => ?_⟩
        subst h1
        dsimp only at hn
        have hs : Srt (f :: L.drop (j + 1)) := hd ▸ hL.sub (List.drop_sublist j L)
        have h3 := hs.un e he f (by simp) hn
        have h4 := hs.head.1 e he2
        rw [h3] at h4
        exact lt_irrefl f h4
  · have h1 := putE_le h.srt ⟨f.n, t⟩
    have h2 := h.len
    omega
/-- Behind the next ones: all names; those ahead of place k have their deadlines. -/
structure P2 (L : List E) (k : Nat) (P : List E) : Prop where
  srt : Srt P
  of : ∀ x ∈ P, ∃ e ∈ L, x.n = e.n
  all : ∀ e ∈ L, ∃ x ∈ P, x.n = e.n
  set : ∀ e ∈ L.take k, e ∈ P
theorem P2.start {L : List E} {t : Int} {P : List E} (h : P1 L t 0 P) : P2 L 0 P := by
  refine ⟨h.srt, fun x hx => ?_, fun e he => ⟨⟨e.n, t⟩, (h.mem _).2 ⟨e, by simpa using he, rfl⟩, rfl⟩, by simp⟩
  obtain ⟨e, he, rfl⟩ := (h.mem x).1 hx
  exact ⟨e, by simpa using he, rfl⟩
theorem P2.put {L : List E} {k : Nat} {P : List E} (hL : Srt L) (h : P2 L k P) {f : E} (hf : f ∈ L) : P2 L k (putE f P) := by
  refine ⟨h.srt.put _, fun x hx => ?_, fun e he => ?_, fun e he => ?_⟩
  · rcases mem_putE.1 hx with rfl | ⟨hx, _⟩
    · exact ⟨_, hf, rfl⟩
    · exact h.of x hx
  · by_cases hn : e.n = f.n
    · exact ⟨f, mem_putE.2 (.inl rfl), hn.symm⟩
    · obtain ⟨x, hx, hxn⟩ := h.all e he
      exact ⟨x, mem_putE.2 (.inr ⟨hx, by rw [hxn]; exact hn⟩), hxn⟩
  · by_cases hn : e.n = f.n
    · rw [hL.un e (List.mem_of_mem_take he) f hf hn]
      exact mem_putE.2 (.inl rfl)
    · exact mem_putE.2 (.inr ⟨h.set e he, hn⟩)
theorem P2.next {L : List E} {k : Nat} {P : List E} (h : P2 L k P) {f : E} (hf : L[k]? = some f) (hm : f ∈ P) : P2 L (k + 1) P := by
  refine ⟨h.srt, h.of, h.all, fun e he => ?_⟩
  rw [List.take_add_one, hf] at he
  rcases List.mem_append.1 he with he | he
  · exact h.set e he
  · simp at he; subst he; exact hm
theorem P2.has {L : List E} {k : Nat} {P : List E} (h : P2 L k P) {f : E} (hf : f ∈ L) : hasN f.n P = true := by
  obtain ⟨x, hx, hn⟩ := h.all f hf
  exact hasN_iff.2 ⟨x, hx, hn⟩
theorem P2.done {L : List E} {P : List E} (hL : Srt L) (h : P2 L L.length P) : P = L := by
  refine h.srt.eq hL fun x => ⟨fun hx => ?_, fun hx => h.set x (by simpa using hx)⟩
  obtain ⟨e, he, hn⟩ := h.of x hx
  have he2 := h.set e (by simpa using he)
  rw [h.srt.un x hx e he2 hn]
  exact he
theorem tk_all {L : List E} (h : ∀ e ∈ L, e.at_ ≤ 18446744073709551615) : tkN 18446744073709551615 L = L ∧ drN 18446744073709551615 L = [] :=
  tk_split (T := L) (M := []) (by simp) h (fun f M' e => by cases e)
end Go.Proofs.Ytipcoghhnbgalaa
