/- Queue.Front, Queue.Pop. -/
import Derived.Test.YtipcoghhnbgalaaQue
namespace Go.Proofs.Ytipcoghhnbgalaa
open Go.RowKit Go.IntWalk Go.Maps
set_option linter.unusedVariables false
theorem heap_first {es L : List E} {f : E} (hH : Hp es es.length) (hm : ∀ x, x ∈ es ↔ x ∈ f :: L) (hs : Srt (f :: L)) : es[0]? = some f := by
  have hfm : f ∈ es := (hm f).2 (by simp)
  obtain ⟨k, hk⟩ := List.mem_iff_getElem?.1 hfm
  have hkl := (List.getElem?_eq_some_iff.1 hk).1
  obtain ⟨a, ha⟩ := some_at (es := es) (k := 0) (by omega)
  have h1 := hH.least (Nat.le_refl _) ha k f hkl hk
  rcases List.mem_cons.1 ((hm a).1 (List.mem_of_getElem? ha)) with e | e
  · rw [ha, e]
  · exact absurd (hs.head.1 a e) h1
/-- A block of one's own: a struct of two cells. -/
theorem own_two {w w1 : World} {a b : Value} (hb : w1.heap[w.heap.size]? = some (.cells #[a, b] 36 (0, 0))) : w1.cell? ⟨w.heap.size, 0, none⟩ = some a ∧ w1.cell? ⟨w.heap.size, 1, none⟩ = some b ∧ ∀ i, w1.frozen? ⟨w.heap.size, i, none⟩ = false :=
  ⟨by simp [World.cell?, hb], by simp [World.cell?, hb], fun i => by simp [World.frozen?, hb]⟩
theorem set_two (w1 : World) (B : Nat) (u v : Value) : w1.grownBy ((w1.setCell ⟨B, 0, none⟩ u).setCell ⟨B, 1, none⟩ v) (some B) := (grown_setCell w1 ⟨B, 0, none⟩ u).trans (grown_setCell _ ⟨B, 1, none⟩ v)
set_option maxRecDepth 100000 in
set_option maxHeartbeats 1000000 in
theorem first_front (w : World) {S : Nat → Prop} {qb : Nat} {f : E} {L : List E} (h : Qu S w qb (f :: L)) :
    Calls Try.prog 29 #[.pointer (some ⟨qb, 0, none⟩), .func (.func 34) #[] #[]] w fun r w' => r = .returned (.tuple #[.agg #[.string f.n, .int .u64 f.at_], .bool true]) ∧ w.grownBy w' none := by
  have hg0 := World.grownBy_alloc w (.cells #[.string ⟨#[]⟩, .int .u64 0] 36) none
  have h0 : Qu S (w.alloc (.cells #[.string ⟨#[]⟩, .int .u64 0] 36)) qb (f :: L) := h.kept fun k _ hk => hg0.block k hk (by simp)
  obtain ⟨⟨bm, rv, es, hL, hH, hm, hS⟩, hs⟩ := id h0
  have hf := heap_first hH hm hs
  have hd : (((L.length : Int) + 1) == 0) = false := by simp; omega
  go_enter Try.func29, Try.ntmps29
  go_wp2_with fail
  refine (len_any _ h0).mono ?_
  rintro r w1 ⟨rfl, rfl⟩
  go_wp2_with fail
  refine (front_any _ hL hf).mono ?_
  rintro r w1 ⟨rfl, hg1⟩
  obtain ⟨d0, d1, f0⟩ := own_two (w := w) (w1 := w1) (by rw [hg1.block w.heap.size (by simp) (by simp)]; simpa using heap_alloc_new w (.cells #[.string ⟨#[]⟩, .int .u64 0] 36))
  go_wp2
  refine bodyPost_ret (v := .tuple #[.agg #[.string f.n, .int .u64 f.at_], .bool true]) (by rw [results_cell_tmp rfl]; go_simp) rfl ?_
  exact ⟨rfl, grown_new (grown_none hg0 hg1) (set_two w1 w.heap.size _ _) (Nat.le_refl _)⟩
set_option maxRecDepth 100000 in
set_option maxHeartbeats 1000000 in
theorem first_none (w : World) {S : Nat → Prop} {qb : Nat} (h : Qu S w qb []) (v : Value) :
    Calls Try.prog 29 #[.pointer (some ⟨qb, 0, none⟩), v] w fun r w' => r = .returned (.tuple #[.agg #[.string ⟨#[]⟩, .int .u64 0], .bool false]) ∧ w.grownBy w' none := by
  have hg0 := World.grownBy_alloc w (.cells #[.string ⟨#[]⟩, .int .u64 0] 36) none
  have h0 : Qu S (w.alloc (.cells #[.string ⟨#[]⟩, .int .u64 0] 36)) qb [] := h.kept fun k _ hk => hg0.block k hk (by simp)
  go_enter Try.func29, Try.ntmps29
  go_wp2_with fail
  refine (len_any _ h0).mono ?_
  rintro r w1 ⟨rfl, rfl⟩
  go_wp2
  refine bodyPost_ret (v := .tuple #[.agg #[.string ⟨#[]⟩, .int .u64 0], .bool false]) (by rw [results_cell_tmp rfl]; go_simp) rfl ?_
  exact ⟨rfl, World.grownBy_alloc w _ none⟩
set_option maxRecDepth 100000 in
set_option maxHeartbeats 1000000 in
theorem first_nil (w : World) (v : Value) :
    Calls Try.prog 29 #[.pointer none, v] w fun r w' => r = .returned (.tuple #[.agg #[.string ⟨#[]⟩, .int .u64 0], .bool false]) ∧ w.grownBy w' none := by
  go_enter Try.func29, Try.ntmps29
  go_wp2_with fail
  refine (len_nil _).mono ?_
  rintro r w1 ⟨rfl, rfl⟩
  go_wp2
  refine bodyPost_ret (v := .tuple #[.agg #[.string ⟨#[]⟩, .int .u64 0], .bool false]) (by rw [results_cell_tmp rfl]; go_simp) rfl ?_
  exact ⟨rfl, World.grownBy_alloc w _ none⟩
/-- A block of one's own was written. -/
theorem Kp.own {S : Nat → Prop} {w w0 w1 w2 : World} (hg0 : w.grownBy w0 none) (hk : Kp S w0 w1) (hg2 : w1.grownBy w2 (some w.heap.size)) : Kp S w w2 :=
  ⟨hg2.os.trans (hk.os.trans hg0.os), hg2.tape.trans (hk.tape.trans hg0.tape), hg2.output.trans (hk.output.trans hg0.output), Nat.le_trans hg0.size (Nat.le_trans hk.size hg2.size), fun k hkl hn =>
    (hg2.block k (by have := hg0.size; have := hk.size; omega) (fun e => by have e' : k = w.heap.size := Option.some.inj e; omega)).trans ((hk.block k (Nat.lt_of_lt_of_le hkl hg0.size) hn).trans (hg0.block k hkl (by simp)))⟩
theorem Qu.fpb {S : Nat → Prop} {w : World} {qb : Nat} {L : List E} (h : Qu S w qb L) : Qu (fun k => S k ∧ k < w.heap.size) w qb L := by
  obtain ⟨⟨bm, rv, es, h1, h2, h3, h4⟩, h5⟩ := h
  exact ⟨⟨bm, rv, es, h1, h2, h3, fun k hk => ⟨h4 k hk, h1.fpl k hk⟩⟩, h5⟩
set_option maxRecDepth 100000 in
set_option maxHeartbeats 1000000 in
theorem first_take (w : World) {S : Nat → Prop} {qb : Nat} {f : E} {L : List E} (h : Qu S w qb (f :: L)) (hSl : ∀ k, S k → k < w.heap.size) :
    Calls Try.prog 29 #[.pointer (some ⟨qb, 0, none⟩), .func (.func 30) #[] #[]] w fun r w' => r = .returned (.tuple #[.agg #[.string f.n, .int .u64 f.at_], .bool true]) ∧ Qu (Gw S w w') w' qb L ∧ Kp S w w' := by
  have hg0 := World.grownBy_alloc w (.cells #[.string ⟨#[]⟩, .int .u64 0] 36) none
  have h0 : Qu S (w.alloc (.cells #[.string ⟨#[]⟩, .int .u64 0] 36)) qb (f :: L) := h.kept fun k _ hk => hg0.block k hk (by simp)
  obtain ⟨⟨bm, rv, es, hL, hH, hm, hS⟩, hs⟩ := id h0
  have hf := heap_first hH hm hs
  have hd : (((L.length : Int) + 1) == 0) = false := by simp; omega
  go_enter Try.func29, Try.ntmps29
  go_wp2_with fail
  refine (len_any _ h0).mono ?_
  rintro r w1 ⟨rfl, rfl⟩
  go_wp2_with fail
  refine (takeFront_any _ hL hH hf).mono ?_
  rintro r w1 ⟨rfl, rv1, es1, hL1, hT1, hH1, hm1⟩
  have hd1 : ∀ x, x ∈ es1 ↔ x ∈ L := fun x => by
    have h4 := mem_delN (n := f.n) (L := f :: L) (x := x)
    rw [hs.head.2.2] at h4
    rw [hm1 x, hm x, h4]
  obtain ⟨hQ1, hK1⟩ := Qu.turn hS hL1 hT1 hH1 hd1 hs.head.2.1
  have hnS : ¬ S w.heap.size := fun e => by have := hSl _ e; omega
  obtain ⟨d0, d1, f0⟩ := own_two (w := w) (w1 := w1) (by rw [hK1.block w.heap.size (by simp) hnS]; simpa using heap_alloc_new w (.cells #[.string ⟨#[]⟩, .int .u64 0] 36))
  go_wp2
  refine bodyPost_ret (v := .tuple #[.agg #[.string f.n, .int .u64 f.at_], .bool true]) (by rw [results_cell_tmp rfl]; go_simp) rfl ?_
  have hg2 := set_two w1 w.heap.size (.string f.n) (.int .u64 f.at_)
  refine ⟨rfl, (hQ1.kept fun k hk hkl => hg2.block k hkl fun e => ?_).mono fun k hk => ?_, Kp.own hg0 hK1 hg2⟩
  · have e' : k = w.heap.size := Option.some.inj e
    rcases hk with hk | hk
    · have := hSl k hk; omega
    · have := hk.1; simp at this; omega
  · rcases hk with hk | hk
    · exact .inl hk
    · exact .inr ⟨by have := hk.1; simp at this; omega, Nat.lt_of_lt_of_le hk.2 hg2.size⟩
set_option maxRecDepth 100000 in
set_option maxHeartbeats 1000000 in
/-- Queue.Front. -/
theorem front_some (w : World) {S : Nat → Prop} {qb : Nat} {f : E} {L : List E} (h : Qu S w qb (f :: L)) :
    Calls Try.prog 24 #[.pointer (some ⟨qb, 0, none⟩)] w fun r w' => r = .returned (.tuple #[.agg #[.string f.n, .int .u64 f.at_], .bool true]) ∧ w.grownBy w' none := by
  have hg0 := World.grownBy_alloc w (.cells #[.string ⟨#[]⟩, .int .u64 0] 36) none
  have h0 : Qu S (w.alloc (.cells #[.string ⟨#[]⟩, .int .u64 0] 36)) qb (f :: L) := h.kept fun k _ hk => hg0.block k hk (by simp)
  go_enter Try.func24, Try.ntmps24
  go_wp2_with fail
  refine (first_front _ h0).mono ?_
  rintro r w1 ⟨rfl, hg1⟩
  obtain ⟨d0, d1, f0⟩ := own_two (w := w) (w1 := w1) (by rw [hg1.block w.heap.size (by simp) (by simp)]; simpa using heap_alloc_new w (.cells #[.string ⟨#[]⟩, .int .u64 0] 36))
  go_wp2
  refine bodyPost_ret (v := .tuple #[.agg #[.string f.n, .int .u64 f.at_], .bool true]) (by rw [results_cell_tmp rfl]; go_simp) rfl ?_
  exact ⟨rfl, grown_new (grown_none hg0 hg1) (set_two w1 w.heap.size _ _) (Nat.le_refl _)⟩
set_option maxRecDepth 100000 in
set_option maxHeartbeats 1000000 in
theorem front_no (w : World) (q : Option Addr) (hc : ∀ w', w.grownBy w' none → Calls Try.prog 29 #[.pointer q, .func (.func 34) #[] #[]] w' fun r w'' => r = .returned (.tuple #[.agg #[.string ⟨#[]⟩, .int .u64 0], .bool false]) ∧ w'.grownBy w'' none) :
    Calls Try.prog 24 #[.pointer q] w fun r w' => r = .returned (.tuple #[.agg #[.string ⟨#[]⟩, .int .u64 0], .bool false]) ∧ w.grownBy w' none := by
  have hg0 := World.grownBy_alloc w (.cells #[.string ⟨#[]⟩, .int .u64 0] 36) none
  replace hc : Hid _ := ⟨hc⟩
  go_enter Try.func24, Try.ntmps24
  go_wp2_with fail
  refine (hc.out _ hg0).mono ?_
  rintro r w1 ⟨rfl, hg1⟩
  obtain ⟨d0, d1, f0⟩ := own_two (w := w) (w1 := w1) (by rw [hg1.block w.heap.size (by simp) (by simp)]; simpa using heap_alloc_new w (.cells #[.string ⟨#[]⟩, .int .u64 0] 36))
  go_wp2
  refine bodyPost_ret (v := .tuple #[.agg #[.string ⟨#[]⟩, .int .u64 0], .bool false]) (by rw [results_cell_tmp rfl]; go_simp) rfl ?_
  exact ⟨rfl, grown_new (grown_none hg0 hg1) (set_two w1 w.heap.size _ _) (Nat.le_refl _)⟩
theorem front_none (w : World) {S : Nat → Prop} {qb : Nat} (h : Qu S w qb []) :
    Calls Try.prog 24 #[.pointer (some ⟨qb, 0, none⟩)] w fun r w' => r = .returned (.tuple #[.agg #[.string ⟨#[]⟩, .int .u64 0], .bool false]) ∧ w.grownBy w' none :=
  front_no w _ fun w' hg => first_none w' (h.kept fun k _ hk => hg.block k hk (by simp)) _
theorem front_nil (w : World) : Calls Try.prog 24 #[.pointer none] w fun r w' => r = .returned (.tuple #[.agg #[.string ⟨#[]⟩, .int .u64 0], .bool false]) ∧ w.grownBy w' none :=
  front_no w _ fun w' hg => first_nil w' _
set_option maxRecDepth 100000 in
set_option maxHeartbeats 1000000 in
/-- Queue.Pop. -/
theorem pop_some (w : World) {S : Nat → Prop} {qb : Nat} {f : E} {L : List E} (h : Qu S w qb (f :: L)) (hSl : ∀ k, S k → k < w.heap.size) :
    Calls Try.prog 15 #[.pointer (some ⟨qb, 0, none⟩)] w fun r w' => r = .returned (.tuple #[.agg #[.string f.n, .int .u64 f.at_], .bool true]) ∧ Qu (Gw S w w') w' qb L ∧ Kp S w w' := by
  have hg0 := World.grownBy_alloc w (.cells #[.string ⟨#[]⟩, .int .u64 0] 36) none
  have h0 : Qu S (w.alloc (.cells #[.string ⟨#[]⟩, .int .u64 0] 36)) qb (f :: L) := h.kept fun k _ hk => hg0.block k hk (by simp)
  go_enter Try.func15, Try.ntmps15
  go_wp2_with fail
  refine (first_take _ h0 (fun k hk => Nat.lt_of_lt_of_le (hSl k hk) hg0.size)).mono ?_
  rintro r w1 ⟨rfl, hQ1, hK1⟩
  have hnS : ¬ S w.heap.size := fun e => by have := hSl _ e; omega
  obtain ⟨d0, d1, f0⟩ := own_two (w := w) (w1 := w1) (by rw [hK1.block w.heap.size (by simp) hnS]; simpa using heap_alloc_new w (.cells #[.string ⟨#[]⟩, .int .u64 0] 36))
  go_wp2
  refine bodyPost_ret (v := .tuple #[.agg #[.string f.n, .int .u64 f.at_], .bool true]) (by rw [results_cell_tmp rfl]; go_simp) rfl ?_
  have hg2 := set_two w1 w.heap.size (.string f.n) (.int .u64 f.at_)
  refine ⟨rfl, (hQ1.kept fun k hk hkl => hg2.block k hkl fun e => ?_).mono fun k hk => ?_, Kp.own hg0 hK1 hg2⟩
  · have e' : k = w.heap.size := Option.some.inj e
    rcases hk with hk | hk
    · have := hSl k hk; omega
    · have := hk.1; simp at this; omega
  · rcases hk with hk | hk
    · exact .inl hk
    · exact .inr ⟨by have := hk.1; simp at this; omega, Nat.lt_of_lt_of_le hk.2 hg2.size⟩
set_option maxRecDepth 100000 in
set_option maxHeartbeats 1000000 in
theorem pop_no (w : World) (q : Option Addr) (hc : ∀ w', w.grownBy w' none → Calls Try.prog 29 #[.pointer q, .func (.func 30) #[] #[]] w' fun r w'' => r = .returned (.tuple #[.agg #[.string ⟨#[]⟩, .int .u64 0], .bool false]) ∧ w'.grownBy w'' none) :
    Calls Try.prog 15 #[.pointer q] w fun r w' => r = .returned (.tuple #[.agg #[.string ⟨#[]⟩, .int .u64 0], .bool false]) ∧ w.grownBy w' none := by
  have hg0 := World.grownBy_alloc w (.cells #[.string ⟨#[]⟩, .int .u64 0] 36) none
  replace hc : Hid _ := ⟨hc⟩
  go_enter Try.func15, Try.ntmps15
  go_wp2_with fail
  refine (hc.out _ hg0).mono ?_
  rintro r w1 ⟨rfl, hg1⟩
  obtain ⟨d0, d1, f0⟩ := own_two (w := w) (w1 := w1) (by rw [hg1.block w.heap.size (by simp) (by simp)]; simpa using heap_alloc_new w (.cells #[.string ⟨#[]⟩, .int .u64 0] 36))
  go_wp2
  refine bodyPost_ret (v := .tuple #[.agg #[.string ⟨#[]⟩, .int .u64 0], .bool false]) (by rw [results_cell_tmp rfl]; go_simp) rfl ?_
  exact ⟨rfl, grown_new (grown_none hg0 hg1) (set_two w1 w.heap.size _ _) (Nat.le_refl _)⟩
theorem pop_none (w : World) {S : Nat → Prop} {qb : Nat} (h : Qu S w qb []) :
    Calls Try.prog 15 #[.pointer (some ⟨qb, 0, none⟩)] w fun r w' => r = .returned (.tuple #[.agg #[.string ⟨#[]⟩, .int .u64 0], .bool false]) ∧ w.grownBy w' none :=
  pop_no w _ fun w' hg => first_none w' (h.kept fun k _ hk => hg.block k hk (by simp)) _
theorem pop_nil (w : World) : Calls Try.prog 15 #[.pointer none] w fun r w' => r = .returned (.tuple #[.agg #[.string ⟨#[]⟩, .int .u64 0], .bool false]) ∧ w.grownBy w' none :=
  pop_no w _ fun w' hg => first_nil w' _
end Go.Proofs.Ytipcoghhnbgalaa
