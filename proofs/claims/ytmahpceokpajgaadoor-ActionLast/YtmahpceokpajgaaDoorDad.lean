/- A draft's deed: add. -/
import Derived.Test.YtmahpceokpajgaaDoorDvl
namespace Go.Proofs.YtmahpceokpajgaaDoor
open Go.RowKit Go.IntWalk Go.Maps Go.Shelf
set_option linter.unusedVariables false
set_option linter.unusedSimpArgs false
set_option maxRecDepth 100000 in
set_option maxHeartbeats 4000000 in
/-- draft.add. -/
theorem dadd_any (w : World) {n₀ db tb : Nat} {wv cv : Value} {ws : List Wr} {cs : List K} (h : Dft n₀ w db tb wv cv ws cs) {S : Nat → Prop} {L : List E} (hT : Tri S w tb L) (hD : Dr w) (s : Sp) (hn : In64 s.n) (hl : ws.length ≤ 100000) (hk : s.ky.length ≤ 100000)
    {v : ByteArray} {is : Bool} (hr : Hid (dval ws L s.ky = (v, is))) {k : K} (hkv : Hid (bt k = if is then v else bt [48])) (hkl : k.length ≤ 1000000) {o : Option Int} (ho : Hid (numOf k = o)) {x : Int} (hx : Hid (sumE o s.n = x)) :
    Calls Tryd.prog 48 #[ptr db, s.val] w fun r w' => r = .returned (.int .i64 x) ∧ Bw n₀ db w w' ∧ (x = 0 → ∃ wv', Dft n₀ w' db tb wv' cv (ws ++ [⟨s.ky, bt (sumK o s.n), true⟩]) cs) := by
  obtain ⟨kd, ky, vl, n⟩ := s
  have hg0 := World.grownBy_alloc w (.cells #[.int .i64 kd, .string (bt ky), .string (bt vl), .int .i64 n] 36) none
  have h0 := h.keep hg0
  have hlt := h.lt
  have hge := h.ge
  have hT0 : Tri S (w.alloc (.cells #[.int .i64 kd, .string (bt ky), .string (bt vl), .int .i64 n] 36)) tb L := hT.kept fun j _ hl => hg0.block j hl (by simp)
  have hD0 := hD.keep hg0
  have hB0 : Bw n₀ db w (w.alloc (.cells #[.int .i64 kd, .string (bt ky), .string (bt vl), .int .i64 n] 36)) := (Bw.refl n₀ db w).alloc (by omega) _
  have e0 : (w.alloc (.cells #[.int .i64 kd, .string (bt ky), .string (bt vl), .int .i64 n] 36)).cell? ⟨w.heap.size, 1, none⟩ = some (.string (bt ky)) := cell_new w _ 36 rfl
  have e1 : (w.alloc (.cells #[.int .i64 kd, .string (bt ky), .string (bt vl), .int .i64 n] 36)).cell? ⟨w.heap.size, 3, none⟩ = some (.int .i64 n) := cell_new w _ 36 rfl
  have hwl : w.heap.size < (w.alloc (.cells #[.int .i64 kd, .string (bt ky), .string (bt vl), .int .i64 n] 36)).heap.size := by simp
  have hval := value_any _ h0 hT0 hl ky hk hr
  simp only [Sp.val]
  replace hB0 : Hid _ := ⟨hB0⟩
  replace hD0 : Hid _ := ⟨hD0⟩
  replace h0 : Hid _ := ⟨h0⟩
  replace hval : Hid _ := ⟨hval⟩
  clear h hg0 hT hT0 hD
  go_enter Tryd.func48, Tryd.ntmps48
  go_wp2_with fail
  generalize hw0 : w.alloc (.cells #[.int .i64 kd, .string (bt ky), .string (bt vl), .int .i64 n] 36) = w0 at *
  refine hval.out.mono ?_
  rintro r w1 ⟨rfl, hg1⟩
  have e0 := grown_cell hg1 e0
  have e1 := grown_cell hg1 e1
  have h1 : Hid _ := ⟨h0.out.keep hg1⟩
  have hsum := sum_any (hD0.out.keep hg1) k hkl n hn ho
  rw [hkv.out, hx.out] at hsum
  have hB1 : Hid (Bw n₀ db w w1) := ⟨hB0.out.grown hg1 (by omega) (fun _ e => by cases e)⟩
  have hs1 := hg1.size
  replace hsum : Hid _ := ⟨hsum⟩
  clear hval hB0 hD0 h0 hg1
  have z48 : bt [48] = { data := #[48] } := rfl
  have hgo : ∀ (e2 : Ending) (w2 : World), True → True := fun _ _ _ => trivial
  cases is
  case' false => rw [if_neg (by decide), z48] at hsum
  case' true => rw [if_pos rfl] at hsum
  all_goals
    clear hgo z48
    go_wp2_with fail
    refine hsum.out.mono ?_
    rintro r w2 ⟨rfl, hg2⟩
    have e0 := grown_cell hg2 e0
    have h2 := h1.out.keep hg2
    have hB2 : Hid (Bw n₀ db w w2) := ⟨hB1.out.grown hg2 (by omega) (fun _ e => by cases e)⟩
    have hs2 := hg2.size
    have hgg2 : Hid (Dft n₀ w2 db tb wv cv ws cs) := ⟨h2⟩
    clear hsum h1 hB1 hg2
    by_cases he : x = 0
    · have h3 := h2.keep (grown_drew w2)
      obtain ⟨v', w3, hrun, hr3, hg3, ho3⟩ := app_w w2.drew ⟨ky, bt (sumK o n), true⟩ h3.rw hl h3.sz 70
      obtain ⟨a', c', rfl⟩ : ∃ a' c', v' = .slice a' (ws ++ [(⟨ky, bt (sumK o n), true⟩ : Wr)]).length c' := by
        rcases hr3.2 with ⟨_, h0⟩ | ⟨g, c, cur, e1, _⟩
        · simp at h0
        · exact ⟨_, _, e1⟩
      obtain ⟨k1, k2, k3, k4⟩ := h3.more_w hr3 hg3 ho3
      have hfin : Hid (Bw n₀ db w (w3.setCell ⟨db, 1, none⟩ (.slice a' _ c')) ∧ ∃ wv', Dft n₀ (w3.setCell ⟨db, 1, none⟩ (.slice a' _ c')) db tb wv' cv (ws ++ [⟨ky, bt (sumK o n), true⟩]) cs) := ⟨hB2.out.drew.trans k2, _, k1⟩
      have c1 : w2.cell? ⟨db, 1, none⟩ = some wv := by simp [World.cell?, h2.blk]
      have d0' := fun o => grown_cell (World.grownBy_alloc w2 o none) c1
      have d1' := fun o => grown_cell (World.grownBy_alloc w2 o none) e0
      clear h2 h3 hr3 hg3 ho3 k1 k2 hB2 hgg2
      rw [he]
      go_wp2_with fail
      refine wp_region_any (by kernel_rfl) ?_
      change wpAny _ _ _ _ _ _ _ (World.drew _)
      refine wpAny_take (i := 0) (v := ?_) rfl (by kernel_rfl) (by kernel_rfl) (by kernel_rfl) (fun _ _ _ h => h) (Or.inl ⟨by rfl, ?_⟩) ?_
      rotate_left
      · (intro w; go_simp; try with_reducible rfl)
      try simp only [List.getElem_toArray, List.getElem_cons_zero, List.getElem_cons_succ, Act.put, List.setIfInBounds_toArray, List.set_cons_zero, List.set_cons_succ]
      refine wpAny_take (i := 1) (v := ?_) rfl (by kernel_rfl) (by kernel_rfl) (by kernel_rfl) (fun _ _ _ h => h) (Or.inl ⟨by rfl, ?_⟩) ?_
      rotate_left
      · (intro w; go_simp; try with_reducible rfl)
      try simp only [List.getElem_toArray, List.getElem_cons_zero, List.getElem_cons_succ, Act.put, List.setIfInBounds_toArray, List.set_cons_zero, List.set_cons_succ]
      refine wpAny_take (i := 2) (v := ?_) rfl (by kernel_rfl) (by kernel_rfl) (by kernel_rfl) (fun _ _ _ h => h) (Or.inl ⟨by rfl, ?_⟩) ?_
      rotate_left
      · (intro w; go_simp; try with_reducible rfl)
      try simp only [List.getElem_toArray, List.getElem_cons_zero, List.getElem_cons_succ, Act.put, List.setIfInBounds_toArray, List.set_cons_zero, List.set_cons_succ]
      refine wpAny_take (i := 3) (v := ?_) rfl (by kernel_rfl) (by kernel_rfl) (by kernel_rfl) (fun _ _ _ h => h) (Or.inl ⟨by rfl, ?_⟩) ?_
      rotate_left
      · (intro w; go_simp; try with_reducible rfl)
      try simp only [List.getElem_toArray, List.getElem_cons_zero, List.getElem_cons_succ, Act.put, List.setIfInBounds_toArray, List.set_cons_zero, List.set_cons_succ]
      refine wpAny_take (i := 5) (v := ?_) rfl (by kernel_rfl) (by kernel_rfl) (by kernel_rfl) (fun _ _ _ h => h) (Or.inl ⟨by rfl, ?_⟩) ?_
      rotate_left
      · (intro w; go_simp; try with_reducible rfl)
      try simp only [List.getElem_toArray, List.getElem_cons_zero, List.getElem_cons_succ, Act.put, List.setIfInBounds_toArray, List.set_cons_zero, List.set_cons_succ]
      refine wpAny_take (i := 7) (v := ?_) rfl (by kernel_rfl) (by kernel_rfl) (by kernel_rfl) (fun _ _ _ h => h) (Or.inl ⟨by rfl, ?_⟩) ?_
      rotate_left
      · (intro w; go_simp; try with_reducible rfl)
      try simp only [List.getElem_toArray, List.getElem_cons_zero, List.getElem_cons_succ, Act.put, List.setIfInBounds_toArray, List.set_cons_zero, List.set_cons_succ]
      refine wpAny_ready (rs := [4, 6]) (by kernel_rfl) (by simp) ?_
      refine AllReady.cons rfl (fun K hK => ?_) (AllReady.cons rfl (fun K hK => ?_) (AllReady.nil))
      · go_simp
        refine hK _ _ ?_
        clear hK K
        try simp only [List.getElem_toArray, List.getElem_cons_zero, List.getElem_cons_succ, Act.put, List.setIfInBounds_toArray, List.set_cons_zero, List.set_cons_succ]
        refine wpAny_ready (rs := [6]) (by kernel_rfl) (by simp) ?_
        refine AllReady.cons rfl (fun K hK => ?_) (AllReady.nil)
        go_simp
        refine hK _ _ ?_
        clear hK K
        try simp only [List.getElem_toArray, List.getElem_cons_zero, List.getElem_cons_succ, Act.put, List.setIfInBounds_toArray, List.set_cons_zero, List.set_cons_succ]
        refine wpAny_take (i := 8) (v := ?_) rfl (by kernel_rfl) (by kernel_rfl) (by kernel_rfl) (fun _ _ _ h => h) (Or.inl ⟨by rfl, ?_⟩) ?_
        rotate_left
        · (intro w; go_simp; try with_reducible rfl)
        try simp only [List.getElem_toArray, List.getElem_cons_zero, List.getElem_cons_succ, Act.put, List.setIfInBounds_toArray, List.set_cons_zero, List.set_cons_succ]
        refine wpAny_ready (rs := [9]) (by kernel_rfl) (by simp) ?_
        refine AllReady.cons rfl (fun K hK => ?_) (AllReady.nil)
        go_simp
        refine hK _ _ ?_
        clear hK K
        try simp only [List.getElem_toArray, List.getElem_cons_zero, List.getElem_cons_succ, Act.put, List.setIfInBounds_toArray, List.set_cons_zero, List.set_cons_succ]
        refine wpAny_ready (rs := [10]) (by kernel_rfl) (by simp) ?_
        refine AllReady.cons rfl (fun K hK => ?_) (AllReady.nil)
        refine step_append_d (by rfl) _ _ (by rfl) _ _ (by rfl) (by rfl) hrun ?_
        refine hK _ _ ?_
        clear hK K
        try simp only [List.getElem_toArray, List.getElem_cons_zero, List.getElem_cons_succ, Act.put, List.setIfInBounds_toArray, List.set_cons_zero, List.set_cons_succ]
        refine wpAny_take (i := 11) (v := ?_) rfl (by kernel_rfl) (by kernel_rfl) (by kernel_rfl) (fun _ _ _ h => h) (Or.inl ⟨by rfl, ?_⟩) ?_
        rotate_left
        · (intro w; go_simp; try with_reducible rfl)
        try simp only [List.getElem_toArray, List.getElem_cons_zero, List.getElem_cons_succ, Act.put, List.setIfInBounds_toArray, List.set_cons_zero, List.set_cons_succ]
        refine wpAny_take (i := 12) (v := ?_) rfl (by kernel_rfl) (by kernel_rfl) (by kernel_rfl) (fun _ _ _ h => h) (Or.inl ⟨by rfl, ?_⟩) ?_
        rotate_left
        · (intro w; go_simp; try with_reducible rfl)
        try simp only [List.getElem_toArray, List.getElem_cons_zero, List.getElem_cons_succ, Act.put, List.setIfInBounds_toArray, List.set_cons_zero, List.set_cons_succ]
        refine wpAny_ready (rs := [13]) (by kernel_rfl) (by simp) ?_
        refine AllReady.cons rfl (fun K hK => ?_) (AllReady.nil)
        go_simp
        refine hK _ _ ?_
        clear hK K
        try simp only [List.getElem_toArray, List.getElem_cons_zero, List.getElem_cons_succ, Act.put, List.setIfInBounds_toArray, List.set_cons_zero, List.set_cons_succ]
        refine wpAny_done (by kernel_rfl) ?_ _
        go_wp2
        go_ret
        have hf := hfin.out
        simp only [List.length_append, List.length_cons, List.length_nil, Nat.zero_add] at hf
        exact ⟨by first | rfl | (rw [he]; rfl), hf.1, fun _ => hf.2⟩
      · go_simp
        refine hK _ _ ?_
        clear hK K
        try simp only [List.getElem_toArray, List.getElem_cons_zero, List.getElem_cons_succ, Act.put, List.setIfInBounds_toArray, List.set_cons_zero, List.set_cons_succ]
        refine wpAny_take (i := 8) (v := ?_) rfl (by kernel_rfl) (by kernel_rfl) (by kernel_rfl) (fun _ _ _ h => h) (Or.inl ⟨by rfl, ?_⟩) ?_
        rotate_left
        · (intro w; go_simp; try with_reducible rfl)
        try simp only [List.getElem_toArray, List.getElem_cons_zero, List.getElem_cons_succ, Act.put, List.setIfInBounds_toArray, List.set_cons_zero, List.set_cons_succ]
        refine wpAny_ready (rs := [4, 9]) (by kernel_rfl) (by simp) ?_
        refine AllReady.cons rfl (fun K hK => ?_) (AllReady.cons rfl (fun K hK => ?_) (AllReady.nil))
        · go_simp
          refine hK _ _ ?_
          clear hK K
          try simp only [List.getElem_toArray, List.getElem_cons_zero, List.getElem_cons_succ, Act.put, List.setIfInBounds_toArray, List.set_cons_zero, List.set_cons_succ]
          refine wpAny_ready (rs := [9]) (by kernel_rfl) (by simp) ?_
          refine AllReady.cons rfl (fun K hK => ?_) (AllReady.nil)
          go_simp
          refine hK _ _ ?_
          clear hK K
          try simp only [List.getElem_toArray, List.getElem_cons_zero, List.getElem_cons_succ, Act.put, List.setIfInBounds_toArray, List.set_cons_zero, List.set_cons_succ]
          refine wpAny_ready (rs := [10]) (by kernel_rfl) (by simp) ?_
          refine AllReady.cons rfl (fun K hK => ?_) (AllReady.nil)
          refine step_append_d (by rfl) _ _ (by rfl) _ _ (by rfl) (by rfl) hrun ?_
          refine hK _ _ ?_
          clear hK K
          try simp only [List.getElem_toArray, List.getElem_cons_zero, List.getElem_cons_succ, Act.put, List.setIfInBounds_toArray, List.set_cons_zero, List.set_cons_succ]
          refine wpAny_take (i := 11) (v := ?_) rfl (by kernel_rfl) (by kernel_rfl) (by kernel_rfl) (fun _ _ _ h => h) (Or.inl ⟨by rfl, ?_⟩) ?_
          rotate_left
          · (intro w; go_simp; try with_reducible rfl)
          try simp only [List.getElem_toArray, List.getElem_cons_zero, List.getElem_cons_succ, Act.put, List.setIfInBounds_toArray, List.set_cons_zero, List.set_cons_succ]
          refine wpAny_take (i := 12) (v := ?_) rfl (by kernel_rfl) (by kernel_rfl) (by kernel_rfl) (fun _ _ _ h => h) (Or.inl ⟨by rfl, ?_⟩) ?_
          rotate_left
          · (intro w; go_simp; try with_reducible rfl)
          try simp only [List.getElem_toArray, List.getElem_cons_zero, List.getElem_cons_succ, Act.put, List.setIfInBounds_toArray, List.set_cons_zero, List.set_cons_succ]
          refine wpAny_ready (rs := [13]) (by kernel_rfl) (by simp) ?_
          refine AllReady.cons rfl (fun K hK => ?_) (AllReady.nil)
          go_simp
          refine hK _ _ ?_
          clear hK K
          try simp only [List.getElem_toArray, List.getElem_cons_zero, List.getElem_cons_succ, Act.put, List.setIfInBounds_toArray, List.set_cons_zero, List.set_cons_succ]
          refine wpAny_done (by kernel_rfl) ?_ _
          go_wp2
          go_ret
          have hf := hfin.out
          simp only [List.length_append, List.length_cons, List.length_nil, Nat.zero_add] at hf
          exact ⟨by first | rfl | (rw [he]; rfl), hf.1, fun _ => hf.2⟩
        · go_simp
          refine hK _ _ ?_
          clear hK K
          try simp only [List.getElem_toArray, List.getElem_cons_zero, List.getElem_cons_succ, Act.put, List.setIfInBounds_toArray, List.set_cons_zero, List.set_cons_succ]
          refine wpAny_ready (rs := [4]) (by kernel_rfl) (by simp) ?_
          refine AllReady.cons rfl (fun K hK => ?_) (AllReady.nil)
          go_simp
          refine hK _ _ ?_
          clear hK K
          try simp only [List.getElem_toArray, List.getElem_cons_zero, List.getElem_cons_succ, Act.put, List.setIfInBounds_toArray, List.set_cons_zero, List.set_cons_succ]
          refine wpAny_ready (rs := [10]) (by kernel_rfl) (by simp) ?_
          refine AllReady.cons rfl (fun K hK => ?_) (AllReady.nil)
          refine step_append_d (by rfl) _ _ (by rfl) _ _ (by rfl) (by rfl) hrun ?_
          refine hK _ _ ?_
          clear hK K
          try simp only [List.getElem_toArray, List.getElem_cons_zero, List.getElem_cons_succ, Act.put, List.setIfInBounds_toArray, List.set_cons_zero, List.set_cons_succ]
          refine wpAny_take (i := 11) (v := ?_) rfl (by kernel_rfl) (by kernel_rfl) (by kernel_rfl) (fun _ _ _ h => h) (Or.inl ⟨by rfl, ?_⟩) ?_
          rotate_left
          · (intro w; go_simp; try with_reducible rfl)
          try simp only [List.getElem_toArray, List.getElem_cons_zero, List.getElem_cons_succ, Act.put, List.setIfInBounds_toArray, List.set_cons_zero, List.set_cons_succ]
          refine wpAny_take (i := 12) (v := ?_) rfl (by kernel_rfl) (by kernel_rfl) (by kernel_rfl) (fun _ _ _ h => h) (Or.inl ⟨by rfl, ?_⟩) ?_
          rotate_left
          · (intro w; go_simp; try with_reducible rfl)
          try simp only [List.getElem_toArray, List.getElem_cons_zero, List.getElem_cons_succ, Act.put, List.setIfInBounds_toArray, List.set_cons_zero, List.set_cons_succ]
          refine wpAny_ready (rs := [13]) (by kernel_rfl) (by simp) ?_
          refine AllReady.cons rfl (fun K hK => ?_) (AllReady.nil)
          go_simp
          refine hK _ _ ?_
          clear hK K
          try simp only [List.getElem_toArray, List.getElem_cons_zero, List.getElem_cons_succ, Act.put, List.setIfInBounds_toArray, List.set_cons_zero, List.set_cons_succ]
          refine wpAny_done (by kernel_rfl) ?_ _
          go_wp2
          go_ret
          have hf := hfin.out
          simp only [List.length_append, List.length_cons, List.length_nil, Nat.zero_add] at hf
          exact ⟨by first | rfl | (rw [he]; rfl), hf.1, fun _ => hf.2⟩
    · clear h2
      go_wp2
      go_ret
      exact ⟨rfl, hB2.out, fun h => absurd h he⟩
end Go.Proofs.YtmahpceokpajgaaDoor
