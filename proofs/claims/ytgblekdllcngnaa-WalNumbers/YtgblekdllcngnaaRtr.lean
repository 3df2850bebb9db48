/- What readNumber and readRoot answer of a root that was written. -/
import Derived.Test.YtgblekdllcngnaaTrn
import Derived.Test.YtgblekdllcngnaaOpn
namespace Go.Proofs.Ytgblekdllcngnaa
open Go.RowKit Go.Shelf Plain Go.IntWalk
set_option linter.unusedVariables false

set_option maxRecDepth 100000 in
set_option maxHeartbeats 1000000 in
/-- readNumber of a field that tells a number that a root may tell. -/
theorem readNumber_some (tag n : Int) (a : Option Addr) (len cap : Nat) (zs : List Int) (w : World) (hb : Bts w.heap.size w (.slice a len cap) zs) (hB : numB zs = true) (hV : Hid (numV zs = n)) (hn : 0 ≤ n) (hn1 : n ≤ 1099511627776) :
    Calls Try.prog 47 #[.agg #[.int .i64 tag, .slice a len cap], .int .i64 tag] w fun e w' => e = .returned (.tuple #[.int .i64 n, .bool true]) ∧ Below w.heap.size w w' := by
  have hB1 := (Below.refl w.heap.size w).alloc (Nat.le_refl _) (.cells #[.int .i64 tag, .slice a len cap] 79)
  have hn' := heap_alloc_new w (.cells #[.int .i64 tag, .slice a len cap] 79)
  have hd : decide (n > 1099511627776) = false := by simp; omega
  have hne : (tag != tag) = false := by simp
  have hnum := number_any _ zs _ ((hb.below hB1).mono hB1.size)
  rw [hB, hV.out] at hnum
  go_enter Try.func47, Try.ntmps47
  go_wp2_with fail
  refine hnum.mono ?_
  rintro e w1 ⟨rfl, rfl⟩
  go_wp2
  go_ret2
  exact ⟨rfl, hB1⟩
set_option maxRecDepth 100000 in
set_option maxHeartbeats 2000000 in
/-- readRoot of a root that was written. -/
theorem readRoot_some (s r : Int) (hs0 : 0 ≤ s) (hs1 : s ≤ 1099511627776) (hr0 : 0 ≤ r) (hr1 : r ≤ 1099511627776) (v : Value) (w : World) (hb : Bts w.heap.size w v (rootB s r)) :
    Calls Try.prog 22 #[v] w fun e w' => e = .returned (.tuple #[.int .i64 s, .int .i64 r]) ∧ Below w.heap.size w w' := by
  go_enter Try.func22, Try.ntmps22
  go_wp2_with fail
  refine (decSaid v _ w hb).mono ?_
  have hok : okL [⟨1, none, 0, 0, enc s.toNat⟩, ⟨2, none, 0, 0, enc r.toNat⟩] = true := by
    have h1 := nb_8 (n := s.toNat) (by omega)
    have h2 := nb_8 (n := r.toNat) (by omega)
    simp [okL, Fd.right, rightB, enc_length]
    omega
  rintro e w1 ⟨⟨u, xs, rfl, hF, hz, ho⟩ | ⟨_, hno⟩, hB⟩
  rotate_left
  · exact absurd rfl (hno _ hok)
  have hsd := encL_inj hz
  obtain ⟨x1, x2, rfl⟩ : ∃ x1 x2, xs = [x1, x2] := by
    match xs, hsd with
    | [], h => simp at h
    | [_], h => simp at h
    | [x1, x2], _ => exact ⟨x1, x2, rfl⟩
    | (_ :: _ :: _ :: _), h => simp at h
  simp only [List.map_cons, List.map_nil, said, List.cons.injEq, Prod.mk.injEq, and_true] at hsd
  obtain ⟨⟨t1, z1⟩, t2, z2⟩ := hsd
  obtain ⟨tag1, a1, l1, c1, zs1⟩ := x1
  obtain ⟨tag2, a2, l2, c2, zs2⟩ := x2
  dsimp only at t1 z1 t2 z2
  subst t1 t2
  have ok1 := hF.2 _ (List.mem_cons_self)
  have ok2 := hF.2 _ (List.mem_cons_of_mem _ List.mem_cons_self)
  obtain ⟨b, off, cap, rfl, hblt, hc1, hc2⟩ : ∃ b off cap, u = .slice (some ⟨b, off, none⟩) 2 cap ∧ b < w1.heap.size ∧ (w1.cell? ⟨b, off, none⟩ = some (.int .i64 1) ∧ w1.cell? ⟨b, off + 1, none⟩ = some (.slice a1 l1 c1)) ∧ (w1.cell? ⟨b, off + 2, none⟩ = some (.int .i64 2) ∧ w1.cell? ⟨b, off + 2 + 1, none⟩ = some (.slice a2 l2 c2)) := by
    obtain ⟨⟨_, h⟩ | ⟨b, off, cap, rfl, hb, hl, hm, hc⟩, _⟩ := hF
    · cases h
    · exact ⟨b, off, cap, rfl, hb, hc 0 _ rfl, hc 1 _ rfl⟩
  have n1 := readNumber_some 1 s a1 l1 c1 zs1 w1 ok1.1 (by rw [← z1]; exact numB_enc _ (by omega)) (by show numV zs1 = s; rw [← z1, numV_enc _ (by omega)]; omega) hs0 hs1
  obtain ⟨hc11, hc12⟩ := hc1
  obtain ⟨hc21, hc22⟩ := hc2
  clear hF hz ho
  have H0 : Hid (Bts w1.heap.size w1 (.slice a2 l2 c2) zs2) := ok2.1
  go_wp2_with fail
  refine n1.mono ?_
  rintro e w2 ⟨rfl, hB2⟩
  have n2 := readNumber_some 2 r a2 l2 c2 zs2 w2 ((H0.out.below hB2).mono hB2.size) (by rw [← z2]; exact numB_enc _ (by omega)) (by show numV zs2 = r; rw [← z2, numV_enc _ (by omega)]; omega) hr0 hr1
  have hc21' : w2.cell? ⟨b, off + 2, none⟩ = some (.int .i64 2) := (hB2.cell (p := ⟨b, off + 2, none⟩) hblt).trans hc21
  have hc22' : w2.cell? ⟨b, off + 2 + 1, none⟩ = some (.slice a2 l2 c2) := (hB2.cell (p := ⟨b, off + 2 + 1, none⟩) hblt).trans hc22
  go_wp2_with fail
  refine n2.mono ?_
  rintro e w3 ⟨rfl, hB3⟩
  go_wp2
  go_ret2
  exact ⟨rfl, hB.trans ((hB2.mono hB.size).trans (hB3.mono (by have := hB.size; have := hB2.size; omega)))⟩
end Go.Proofs.Ytgblekdllcngnaa
