/- Get, Len, Nodes, New. -/
import Derived.Test.YtpcdmjalfabbmaaEnn
namespace Go.Proofs.Ytpcdmjalfabbmaa
open Go.RowKit Go.IntWalk Go.Maps
set_option linter.unusedVariables false
theorem drop_nil_iff {k p : K} (h : p <+: k) : k.drop p.length = [] ↔ p = k := by
  constructor
  · intro e
    refine h.eq_of_length ?_
    have := congrArg List.length e
    have := h.length_le
    simp at *
    omega
  · rintro rfl; simp
theorem Top.key {P : List K} {k p : K} (h : Top P k p) (hne : p ≠ k) {key : K → Prop} (hk : ∀ q, key q → q ∈ P) : ¬ key k := fun hc => hne (h.un (top_end (hk k hc)))
theorem gt_no {P : List K} {L : List E} {k p : K} (h : Top P k p) (hne : p ≠ k) (hk : ∀ q, (gt L q).isSome = true → q ∈ P) : gt L k = none := by
  have := h.key hne (key := fun q => (gt L q).isSome = true) hk
  cases e : gt L k with
  | none => rfl
  | some v => exact absurd (by rw [e]; rfl) this
set_option maxRecDepth 100000 in
set_option maxHeartbeats 1000000 in
/-- Trie.Get. -/
theorem get_any (w : World) {S : Nat → Prop} {tb : Nat} {L : List E} (h : Tri S w tb L) (k : K) (hk : k.length ≤ 9223372036854775807) {o : Option ByteArray} (ho : Hid (gt L k = o)) :
    Calls Try.prog 26 #[ptr tb, .string (bt k)] w fun r w' => r = .returned (.tuple #[.string (vOf o), .bool o.isSome]) ∧ w.grownBy w' none := by
  obtain ⟨P, nb, mb, lab, h1, h2, h3⟩ := h.ex
  have hct := end_any w h1 k hk
  have tl := bt_toList
  go_enter Try.func26, Try.ntmps26
  go_wp2_with fail
  refine hct.mono ?_
  rintro r w1 ⟨p, ab, hE, rfl, hg⟩
  have hpre := hE.1.2.1
  by_cases hpk : p = k
  · subst hpk
    have hr : p.drop p.length = [] := by simp
    rw [hr, bt_nil]
    have h1' := h1.keep hg
    haveI := lat_nonempty w1
    have k1 := lat_cell (h1'.tm.c1 hE.1.1)
    have k2 := lat_cell (h1'.tm.c2 hE.1.1)
    rw [ho.out] at k1 k2
    clear h1 h2 h3 hct h1'
    go_wp2_with fail
    refine wp_region_lat (by kernel_rfl) (by kernel_rfl) ?_
    repeat (go_big_quiet_step (fail))
    refine wpQuiet_nil ?_
    intro _ hw'
    obtain ⟨q, hw''⟩ := hw'
    subst hw''
    go_wp2
    go_ret2
    exact ⟨rfl, grown_none hg q.h⟩
  · have hr : k.drop p.length ≠ [] := fun e => hpk ((drop_nil_iff hpre).1 e)
    have hno := gt_no hE.1 hpk h1.tm.key
    have hon : Hid (o = none) := ⟨by rw [← ho.out, hno]⟩
    obtain ⟨rest, hrest⟩ : ∃ rest, Hid (k.drop p.length = rest) := ⟨_, ⟨rfl⟩⟩
    rw [hrest.out] at hr ⊢
    have hrb : (rest == ([] : K)) = false := by simpa using hr
    clear h1 h2 h3 hct hr hno hpk
    go_wp2
    go_ret2
    exact ⟨by rw [hon.out]; rfl, hg⟩
set_option maxRecDepth 100000 in
set_option maxHeartbeats 1000000 in
theorem get_nil (w : World) (k : K) : Calls Try.prog 26 #[.pointer none, .string (bt k)] w fun r w' => r = .returned (.tuple #[.string (bt []), .bool false]) ∧ w.grownBy w' none := by
  go_enter Try.func26, Try.ntmps26
  go_wp2_with fail
  refine (end_nil w k).mono ?_
  rintro r w1 ⟨rfl, hg⟩
  rw [bt_nil]
  go_wp2
  go_ret2
  exact ⟨rfl, hg⟩
set_option maxRecDepth 100000 in
set_option maxHeartbeats 1000000 in
/-- Trie.Len. -/
theorem len_any (w : World) {S : Nat → Prop} {tb : Nat} {L : List E} (h : Tri S w tb L) : Calls Try.prog 21 #[ptr tb] w fun r w' => r = .returned (.int .i64 L.length) ∧ w' = w := by
  obtain ⟨P, nb, mb, lab, h1, h2, h3⟩ := h.ex
  have c1 := h1.c1
  go_enter Try.func21, Try.ntmps21
  go_wp2
  go_ret
  exact ⟨rfl, rfl⟩
set_option maxRecDepth 100000 in
set_option maxHeartbeats 1000000 in
theorem len_nil (w : World) : Calls Try.prog 21 #[.pointer none] w fun r w' => r = .returned (.int .i64 0) ∧ w' = w := by
  go_enter Try.func21, Try.ntmps21
  go_wp2
  go_ret
  exact ⟨rfl, rfl⟩
set_option maxRecDepth 100000 in
set_option maxHeartbeats 1000000 in
/-- Trie.Nodes. -/
theorem nodes_any (w : World) {S : Nat → Prop} {tb : Nat} {L : List E} (h : Tri S w tb L) {n : Nat} (hn : Hid (nds L = n)) : Calls Try.prog 22 #[ptr tb] w fun r w' => r = .returned (.int .i64 n) ∧ w' = w := by
  obtain ⟨P, nb, mb, lab, h1, h2, h3⟩ := h.ex
  have c2 := h1.c2
  rw [h1.tm.places h.srt h2, hn.out] at c2
  go_enter Try.func22, Try.ntmps22
  go_wp2
  go_ret
  exact ⟨rfl, rfl⟩
set_option maxRecDepth 100000 in
set_option maxHeartbeats 1000000 in
theorem nodes_nil (w : World) : Calls Try.prog 22 #[.pointer none] w fun r w' => r = .returned (.int .i64 0) ∧ w' = w := by
  go_enter Try.func22, Try.ntmps22
  go_wp2
  go_ret
  exact ⟨rfl, rfl⟩
set_option maxRecDepth 100000 in
set_option maxHeartbeats 1000000 in
theorem put_nil (w : World) (k v : ByteArray) : Calls Try.prog 12 #[.pointer none, .string k, .string v] w fun r w' => r = .returned (.tuple #[.string (bt []), .bool false]) ∧ w' = w := by
  go_enter Try.func12, Try.ntmps12
  go_wp2
  go_ret2
  exact ⟨rfl, rfl⟩
set_option maxRecDepth 100000 in
set_option maxHeartbeats 1000000 in
theorem drop_nil (w : World) (k : K) : Calls Try.prog 14 #[.pointer none, .string (bt k)] w fun r w' => r = .returned (.tuple #[.string (bt []), .bool false]) ∧ w.grownBy w' none := by
  go_enter Try.func14, Try.ntmps14
  go_wp2_with fail
  refine (end_nil w k).mono ?_
  rintro r w1 ⟨rfl, hg⟩
  rw [bt_nil]
  go_wp2
  go_ret2
  exact ⟨rfl, hg⟩
set_option maxRecDepth 100000 in
set_option maxHeartbeats 1000000 in
theorem copy_nil (w : World) : Calls Try.prog 16 #[.pointer none] w fun r w' => r = .returned (.pointer none) ∧ w' = w := by
  go_enter Try.func16, Try.ntmps16
  go_wp2
  go_ret
  exact ⟨rfl, rfl⟩
set_option maxRecDepth 100000 in
set_option maxHeartbeats 1000000 in
/-- trie.New. -/
theorem new_any (w : World) : Calls Try.prog 9 #[] w fun r w' => ∃ tb, r = .returned (ptr tb) ∧ Tri (fun j => w.heap.size ≤ j ∧ j < w'.heap.size) w' tb [] ∧ w.grownBy w' none := by
  go_enter Try.func9, Try.ntmps9
  rw [← bt_nil]
  go_wp2_with fail
  refine (node_n w [] (by simp)).mono ?_
  rintro r w1 ⟨nb, mb, rfl, hn, hg⟩
  go_wp2
  go_ret
  obtain ⟨hn⟩ := hn
  obtain ⟨hg⟩ := hg
  have nl := (Array.getElem?_eq_some_iff.1 hn.bn).1
  have ml := (Array.getElem?_eq_some_iff.1 hn.bm).1
  have n0 := hn.nl
  have m0 := hn.ml
  generalize ho : Obj.cells #[ptr nb, Value.int IntKind.i64 0, Value.int IntKind.i64 1] 59 = o
  have g1 := World.grownBy_alloc w1 o none
  have b1 := heap_alloc_new w1 o
  have hs : (w1.alloc o).heap.size = w1.heap.size + 1 := by simp
  have hno : ∀ p q, ¬ Kid [[]] p q := fun p q h => h.ne (by rw [List.mem_singleton.1 h.up, List.mem_singleton.1 h.lo])
  have hT : Tm (w1.alloc o) [[]] (fun _ => nb) (fun _ => mb) (fun _ => []) (gt []) := by
    refine ⟨by simp, fun p hp q hq => ?_, by simp, fun p hp => ?_, fun p hp => ⟨_, Km.made ((g1.block mb ml (by simp)).trans hn.bm), fun c n => ?_⟩, fun p q h => absurd h (hno p q), fun p hp q hq _ => by rw [List.mem_singleton.1 hp, List.mem_singleton.1 hq], fun p hp q hq _ => by rw [List.mem_singleton.1 hp, List.mem_singleton.1 hq], fun p hp => by simp [gt] at hp, fun p hp => by rw [List.mem_singleton.1 hp]; simp, rfl⟩
    · rw [List.mem_singleton.1 hp, List.mem_singleton.1 hq]
      simp [lcp]
    · exact (g1.block nb nl (by simp)).trans hn.bn
    · constructor
      · intro h; cases h
      · rintro ⟨q, hq, _⟩
        exact absurd hq (hno p q)
  refine ⟨w1.heap.size, rfl, ⟨⟨[[]], _, _, _, ⟨hT, ?_⟩, fun p hp => .inl (List.mem_singleton.1 hp), ?_⟩, Srt.nil, by simp⟩, grown_none hg g1⟩
  · rw [b1, ← ho]
    rfl
  · rintro j (rfl | ⟨p, hp, rfl | rfl⟩)
    · have := hg.size; omega
    · omega
    · omega
end Go.Proofs.Ytpcdmjalfabbmaa
