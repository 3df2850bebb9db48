/- What newRoot answers; slices.Delete of the starts. -/
import Derived.Test.YtgblekdllcngnaaLgf
import Derived.Test.YtgblekdllcngnaaDeca
namespace Go.Proofs.Ytgblekdllcngnaa
open Go.RowKit Go.Shelf Plain Go.IntWalk
set_option linter.unusedVariables false

/-- The bytes of a root. -/
def rootB (s r : Int) : List Int := encL [⟨1, none, 0, 0, enc s.toNat⟩, ⟨2, none, 0, 0, enc r.toNat⟩]
theorem rootB_length (s r : Int) (hs : s < 18446744073709551616) (hr : r < 18446744073709551616) : (rootB s r).length ≤ 22 := by
  have h1 := nb_8 (n := s.toNat) (by omega)
  have h2 := nb_8 (n := r.toNat) (by omega)
  simp only [rootB, encL, encF, List.flatMap_cons, List.flatMap_nil, List.length_append, List.length_cons, List.length_nil, enc_length]
  omega
set_option maxRecDepth 100000 in
set_option maxHeartbeats 2000000 in
/-- newRoot. -/
theorem newRoot_any (s r : Int) (hs0 : 0 ≤ s) (hs1 : s ≤ 1000000000000000) (hr0 : 0 ≤ r) (hr1 : r ≤ 1000000000000000) (w : World) :
    Calls Try.prog 35 #[.int .i64 s, .int .i64 r] w fun e w' => ∃ v', e = .returned v' ∧ Bts w'.heap.size w' v' (rootB s r) ∧ Below w.heap.size w w' := by
  go_enter Try.func35, Try.ntmps35
  go_wp2_with fail
  refine (bytes_any s w hs0 (by omega)).mono ?_
  rintro e w1 ⟨rfl, hr1', hB1⟩
  go_wp2_with fail
  refine (bytes_any r w1 hr0 (by omega)).mono ?_
  rintro e w2 ⟨rfl, hr2', hB2⟩
  have hs1' := hB1.size
  have hs2' := hB2.size
  have hl1 := hr1'.lt w.heap.size rfl
  have hl2 := hr2'.lt w1.heap.size rfl
  have b1 := Bts.of_own hr1' (enc_byte _)
  have b2 := Bts.of_own hr2' (enc_byte _)
  obtain ⟨W3, hW3⟩ : ∃ W3, w2.alloc (.cells #[.int .i64 1, .slice (some ⟨w.heap.size, 0, none⟩) (nb s.toNat) (nb s.toNat), .int .i64 2, .slice (some ⟨w1.heap.size, 0, none⟩) (nb r.toNat) (nb r.toNat)] 79) = W3 := ⟨_, rfl⟩
  have hn := heap_alloc_new w2 (.cells #[.int .i64 1, .slice (some ⟨w.heap.size, 0, none⟩) (nb s.toNat) (nb s.toNat), .int .i64 2, .slice (some ⟨w1.heap.size, 0, none⟩) (nb r.toNat) (nb r.toNat)] 79)
  have hB3 : Below w2.heap.size w2 W3 := by rw [← hW3]; exact (Below.refl _ w2).alloc (Nat.le_refl _) _
  have hlt3 : w2.heap.size < W3.heap.size := by rw [← hW3]; simp
  rw [hW3] at hn
  have hF : Flds W3.heap.size W3 (.slice (some ⟨w2.heap.size, 0, none⟩) 2 2) [⟨1, some ⟨w.heap.size, 0, none⟩, nb s.toNat, nb s.toNat, enc s.toNat⟩, ⟨2, some ⟨w1.heap.size, 0, none⟩, nb r.toNat, nb r.toNat, enc r.toNat⟩] := by
    refine ⟨.inr ⟨w2.heap.size, 0, 2, rfl, hlt3, by simp, by unfold maxLen; omega, fun j x hj => ?_⟩, ?_⟩
    · match j with
      | 0 => simp at hj; subst hj; exact ⟨by simp only [World.cell?, hn]; rfl, by simp only [World.cell?, hn]; rfl⟩
      | 1 => simp at hj; subst hj; exact ⟨by simp only [World.cell?, hn]; rfl, by simp only [World.cell?, hn]; rfl⟩
      | (j + 2) => simp at hj
    · intro x hx
      simp at hx
      rcases hx with rfl | rfl
      · exact ⟨((b1.below (hB2)).mono hs2').below hB3 |>.mono hB3.size, by dsimp only; omega, by dsimp only; omega⟩
      · exact ⟨b2.below hB3 |>.mono hB3.size, by dsimp only; omega, by dsimp only; omega⟩
  have hok : okL [⟨1, some ⟨w.heap.size, 0, none⟩, nb s.toNat, nb s.toNat, enc s.toNat⟩, ⟨2, some ⟨w1.heap.size, 0, none⟩, nb r.toNat, nb r.toNat, enc r.toNat⟩] = true := by
    have h1 := nb_8 (n := s.toNat) (by omega)
    have h2 := nb_8 (n := r.toNat) (by omega)
    simp [okL, Fd.right, rightB, enc_length]
    omega
  have he : encR [⟨1, some ⟨w.heap.size, 0, none⟩, nb s.toNat, nb s.toNat, enc s.toNat⟩, ⟨2, some ⟨w1.heap.size, 0, none⟩, nb r.toNat, nb r.toNat, enc r.toNat⟩] = rootB s r := by
    unfold encR; rw [if_pos hok]; exact encL_said rfl
  have hE := encode_any _ _ W3 hF
  rw [he] at hE
  go_wp2_with fail
  refine hE.mono ?_
  rintro e w4 ⟨u, rfl, hown4, hB4⟩
  have hb4 := Bts.of_own hown4 (fun z hz => encR_byte hF.2 z (by rw [he]; exact hz))
  obtain ⟨a4, cap4, rfl⟩ := hb4.shape
  go_wp2
  go_ret
  exact ⟨_, rfl, hb4, hB1.trans ((hB2.mono hs1').trans ((hB3.mono (by omega)).trans (hB4.mono (by have := hB3.size; omega))))⟩
theorem setCells_heap (g : Nat) : ∀ (vs : List Value) (o : Nat) (w : World) (cs : Array Value) (t : TypeId), w.heap[g]? = some (.cells cs t (0, 0)) → o + vs.length ≤ cs.size →
    ∃ cs' : Array Value, (w.setCells g o vs).heap[g]? = some (.cells cs' t (0, 0)) ∧ cs'.size = cs.size ∧ (∀ j, j < o → cs'[j]? = cs[j]?) ∧ (∀ j, j < vs.length → cs'[o + j]? = vs[j]?)
  | [], o, w, cs, t, h, _ => ⟨cs, h, rfl, fun _ _ => rfl, fun j hj => by simp at hj⟩
  | v :: vs, o, w, cs, t, h, hl => by
    simp only [List.length_cons] at hl
    have h1 := heap_set h o v
    obtain ⟨cs', e1, e2, e3, e4⟩ := setCells_heap g vs (o + 1) (w.setCell ⟨g, o, none⟩ v) _ t h1 (by simp; omega)
    refine ⟨cs', e1, by rw [e2]; simp, fun j hj => ?_, fun j hj => ?_⟩
    · rw [e3 j (by omega), Array.getElem?_setIfInBounds]
      simp; omega
    · cases j with
      | zero => rw [Nat.add_zero, e3 o (by omega), Array.getElem?_setIfInBounds]; simp; omega
      | succ j =>
        have := e4 j (by simpa using hj)
        rw [show o + (j + 1) = o + 1 + j by omega, this]; rfl
theorem setCells_grown (g : Nat) : ∀ (vs : List Value) (o : Nat) (w : World), w.grownBy (w.setCells g o vs) (some g)
  | [], _, w => (grown_refl w).but _
  | v :: vs, o, w => (grown_setCell w ⟨g, o, none⟩ v).andThen (setCells_grown g vs (o + 1) _) fun j hj => .inr hj
/-- slices.Delete of the first starts. -/
theorem delete_starts (w : World) (sv : Value) (st : List Int) (G : Nat) (hG : G ≤ st.length) (hl : st.length ≤ 100000) (hrow : w.ownsRow 0 3 1 sv st.length (st.map (Value.int .i64))) :
    Calls Try.prog 37 #[sv, .int .i64 0, .int .i64 G] w fun e w' => ∃ sv', e = .returned sv' ∧ sv'.ownBlock = sv.ownBlock ∧ w'.ownsRow 0 3 1 sv' (st.drop G).length ((st.drop G).map (Value.int .i64)) ∧ w.grownBy w' sv.ownBlock := by
  rcases hrow.2 with ⟨rfl, h0⟩ | ⟨g, cap, cur, rfl, hb, hg, hn, hm, hsz, ht⟩
  · have e : st = [] := List.eq_nil_of_length_eq_zero h0
    subst e
    obtain rfl : G = 0 := by simpa using hG
    refine (delete_empty none 0 w).mono ?_
    rintro e w' ⟨rfl, rfl⟩
    exact ⟨_, rfl, rfl, by simpa using hrow, by simpa [Value.ownBlock] using grown_refl w'⟩
  · have hcap : cap ≤ 9223372036854775807 := by unfold maxLen at hm; omega
    have hcells : ∀ j, j < st.length → w.cell? ⟨g, 0 + j, none⟩ = some (.int .i64 (st.getD j 0)) := fun j hj => by
      have := hrow.cells (g := g) rfl j (.int .i64 (st.getD j 0)) (by simp [hj])
      have hadd : (⟨g, 0, none⟩ : Addr).add j = ⟨g, 0 + j, none⟩ := by unfold Addr.add; split <;> simp_all
      rwa [hadd] at this
    refine (delete_any g 0 st.length cap 0 G st w (Nat.le_refl _) hn hcap (Nat.zero_le _) hG hcells (fun j hj => by simp [World.frozen?, hg])).mono ?_
    rintro e w' ⟨rfl, q, rfl⟩
    have hlen : (((st.take st.length).take 0 ++ (st.take st.length).drop G ++ List.replicate (G - 0) 0).map (Value.int .i64)).length = st.length := by simp; omega
    have hgq : (w.drewN q).heap[g]? = some (.cells cur 3 (0, 0)) := hg
    obtain ⟨cs', e1, e2, e3, e4⟩ := setCells_heap g (((st.take st.length).take 0 ++ (st.take st.length).drop G ++ List.replicate (G - 0) 0).map (Value.int .i64)) 0 (w.drewN q) cur 3 hgq (by rw [hlen]; omega)
    refine ⟨_, rfl, rfl, ⟨by simp, .inr ⟨g, cap, cs', by simp, by omega, e1, by simp; omega, hm, by omega, ?_⟩⟩, ?_⟩
    · apply List.ext_getElem?
      intro j
      rw [Nat.mul_one, List.getElem?_take]
      by_cases hj : j < (st.drop G).length
      · rw [if_pos hj, Array.getElem?_toList]
        have := e4 j (by rw [hlen]; simp at hj; omega)
        rw [Nat.zero_add] at this
        rw [this, List.getElem?_map, List.take_length, List.take_zero, List.nil_append, List.getElem?_append_left hj, List.getElem?_map]
      · rw [if_neg hj, List.getElem?_eq_none (by simpa using hj)]
    · exact grown_same (drewN_grown w q) (setCells_grown g _ 0 _)
end Go.Proofs.Ytgblekdllcngnaa
