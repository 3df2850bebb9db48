/- Do. -/
import Derived.Test.YtmahpceokpajgaaDoorDdo
namespace Go.Proofs.YtmahpceokpajgaaDoor
open Go.RowKit Go.IntWalk Go.Maps Go.Shelf
set_option linter.unusedVariables false
set_option linter.unusedSimpArgs false
theorem own_less {w : World} {base base' : Nat} {e : TypeId} {size : Nat} {v : Value} {n : Nat} {xs : List Value} (h : w.ownsRow base' e size v n xs) (hb : base ≤ base') : w.ownsRow base e size v n xs := ⟨h.1, h.2.imp id fun ⟨g, cap, cur, e1, hbg, r⟩ => ⟨g, cap, cur, e1, Nat.le_trans hb hbg, r⟩⟩
/-- Steps done one after the other: the answer, what is to be written, what is to be cancelled. -/
def doX (L : List E) : List Sp → List Wr → List K → Int × List Wr × List K
  | [], ws, cs => (0, ws, cs)
  | s :: l, ws, cs => if stE L ws s = 0 then doX L l (ws ++ stW L ws s) (cs ++ stC s) else (stE L ws s, [], [])
def tabO : Obj := .cells #[.nilFunc, .func (.func 46) #[] #[], .func (.func 47) #[] #[], .func (.func 48) #[] #[], .func (.func 49) #[] #[]] 75 (0, 0)
theorem stW_len (L : List E) (ws : List Wr) (s : Sp) : (stW L ws s).length ≤ 1 := by
  unfold stW
  split <;> (try split) <;> (try split) <;> simp
theorem stC_len (s : Sp) : (stC s).length ≤ 1 := by
  unfold stC
  split <;> simp
theorem bt_len (k : K) : (bt k).size = k.length := bt_size k
theorem stW_vals {L : List E} {ws : List Wr} {s : Sp} (h : rgt s = true) : ∀ x ∈ stW L ws s, x.vl.size ≤ 100000 ∧ x.ky.length ≤ 16 := by
  obtain ⟨_, hky, hv⟩ := rgt_kd3 h
  intro x hx
  unfold stW at hx
  split at hx
  · simp at hx; subst hx
    have := bt_len s.vl
    refine ⟨?_, hky⟩
    simp only; omega
  · split at hx
    · simp at hx; subst hx
      exact ⟨(by decide : (ByteArray.mk #[]).size ≤ 100000), hky⟩
    · split at hx
      · simp at hx; subst hx
        have := bt_len (sumK (addO L ws s) s.n)
        have h2 : (sumK (addO L ws s) s.n).length ≤ 21 := by
          unfold sumK
          split
          · split
            · exact itoa_len (by assumption)
            · simp
          · simp
        refine ⟨?_, hky⟩
        simp only; omega
      · simp at hx
/-- The state of Do's loop. -/
structure Dos (w wr : World) (db tb : Nat) (L : List E) (xs : List Sp) (i : Nat) : Prop where
  ex : ∃ wv cv ws cs, Dft db wr db tb wv cv ws cs ∧ doX L xs [] [] = doX L (xs.drop i) ws cs ∧ ws.length ≤ i ∧ cs.length ≤ i ∧ ∀ x ∈ ws, x.vl.size ≤ 100000 ∧ x.ky.length ≤ 16
  b : Below w.heap.size w wr
  t : wr.heap[db + 1]? = some tabO
  le : w.heap.size ≤ db
set_option maxRecDepth 100000 in
set_option maxHeartbeats 4000000 in
theorem do_any (w : World) {S : Nat → Prop} {tb : Nat} {L : List E} (hT : Tri S w tb L) (hS : ∀ j, S j → j < w.heap.size) (hD : Dr w) {a : Option Addr} {cap : Nat} {xs : List Sp} (hx : Sps w.heap.size w (.slice a xs.length cap) xs) (hvL : ∀ x ∈ L, x.v.size ≤ 100000) (hL : L.length ≤ 90000) :
    Calls Tryd.prog 20 #[ptr tb, .slice a xs.length cap] w fun r w' =>
      (wrE xs ≠ 0 → r = .returned (.tuple #[.slice none 0 0, .int .i64 (wrE xs)]) ∧ w.grownBy w' none) ∧
      (wrE xs = 0 → (doX L xs [] []).1 ≠ 0 → r = .returned (.tuple #[.slice none 0 0, .int .i64 (doX L xs [] []).1]) ∧ w.grownBy w' none) ∧
      (wrE xs = 0 → (doX L xs [] []).1 = 0 → ∃ cv, r = .returned (.tuple #[cv, .int .i64 0]) ∧ w'.ownsRow w.heap.size 9 1 cv (doX L xs [] []).2.2.length (cellsK (doX L xs [] []).2.2) ∧ Cod S w w' tb (L.length + 4) (wrAll L (doX L xs [] []).2.1)) := by
  have hwr := wrong_any w hx (r := wrE xs) ⟨rfl⟩
  replace hT : Hid _ := ⟨hT⟩
  replace hD : Hid _ := ⟨hD⟩
  replace hvL : Hid _ := ⟨hvL⟩
  go_enter Tryd.func20, Tryd.ntmps20
  go_wp2_with fail
  refine hwr.mono ?_
  rintro r w1 ⟨rfl, hg1⟩
  clear hwr
  by_cases h0 : wrE xs = 0
  · have hd0 : Hid (wrE xs = 0) := ⟨h0⟩
    have hall : xs.length ≤ 4 ∧ xs.all rgt = true := by
      unfold wrE at h0
      split at h0
      · refine ⟨by assumption, ?_⟩
        split at h0
        · assumption
        · omega
      · omega
    rw [h0]
    have hdd := deeds_any w1
    replace hdd : Hid _ := ⟨hdd⟩
    replace hg1 : Hid _ := ⟨hg1⟩
    go_wp2_with fail
    refine hdd.out.mono ?_
    rintro r w2 ⟨rfl, hg2⟩
    clear hdd
    have hg02 := grown_none hg1.out hg2
    obtain ⟨db, hdb⟩ : ∃ db, db = w2.heap.size := ⟨_, rfl⟩
    have hst : Dos w ((w2.alloc (.cells #[ptr tb, .slice none 0 0, .slice none 0 0] 72)).alloc tabO) db tb L xs 0 := by
      refine ⟨⟨.slice none 0 0, .slice none 0 0, [], [], ⟨Nat.le_refl _, by rw [hdb]; simp, ?_, ?_, ?_, fun g h => by cases h⟩, rfl, Nat.le_refl _, Nat.le_refl _, by simp⟩, ?_, ?_, ?_⟩
      · rw [hdb, Below.heap_alloc _ _ _ (by simp)]
        exact World.alloc_heap_new w2 _
      · simpa [cellsW] using World.ownsRow_nil _ (db + 2) 101 3
      · simpa [cellsK] using World.ownsRow_nil _ (db + 2) 9 1
      · exact (((Below.refl _ w).grown hg02 (Nat.le_refl _) (fun _ e => by cases e)).alloc hg02.size _).alloc (Nat.le_trans hg02.size (by simp)) _
      · rw [hdb]
        have := World.alloc_heap_new (w2.alloc (.cells #[ptr tb, .slice none 0 0, .slice none 0 0] 72)) tabO
        simpa using this
      · rw [hdb]; exact hg02.size
    replace hst : Hid _ := ⟨hst⟩
    clear hg1 hg2 hg02
    go_wp2_with fail
    subst hdb
    go_loopw [24] (fun iv wr => ∃ i : Nat, iv = .int .i64 i ∧ i ≤ xs.length ∧ Hid (Dos w wr w2.heap.size tb L xs i))
      (fun iv _ => xs.length - (intOf iv).toNat)
    case atStart => exact ⟨0, rfl, by omega, hst⟩
    case round =>
      clear hst
      obtain ⟨i, rfl, hi, hR⟩ := hrel
      by_cases hlt : i < xs.length
      · have hdi : decide ((i : Int) < xs.length) = true := by simp; omega
        obtain ⟨s, hs⟩ : ∃ s, xs[i]? = some s := ⟨_, List.getElem?_eq_getElem hlt⟩
        have hsr : rgt s = true := List.all_eq_true.1 hall.2 s (List.mem_of_getElem? hs)
        obtain ⟨⟨wv, cv, ws, cs, hd, hdo, hw1, hc1, hvW⟩, hb, ht, hle⟩ := hR.out
        obtain ⟨bb, off, rfl, hbb, hok, k0, k1, k2, k3⟩ := (hx.below hb (Nat.le_refl _)).at hs
        have hdr : xs.drop i = s :: xs.drop (i + 1) := by
          rw [List.drop_eq_getElem_cons hlt]
          congr 1
          exact (List.getElem?_eq_some_iff.1 hs).2
        obtain ⟨x, hxe⟩ : ∃ x, Hid (stE L ws s = x) := ⟨_, ⟨rfl⟩⟩
        have hkk := (rgt_kd3 hsr).1
        have hga := World.grownBy_alloc wr (.cells #[.int .i64 s.kd, .string (bt s.ky), .string (bt s.vl), .int .i64 s.n] 36) none
        have q0 : (wr.alloc (.cells #[.int .i64 s.kd, .string (bt s.ky), .string (bt s.vl), .int .i64 s.n] 36)).cell? ⟨wr.heap.size, 0, none⟩ = some (.int .i64 s.kd) := cell_new wr _ 36 rfl
        have q1 : (wr.alloc (.cells #[.int .i64 s.kd, .string (bt s.ky), .string (bt s.vl), .int .i64 s.n] 36)).cell? ⟨wr.heap.size, 1, none⟩ = some (.string (bt s.ky)) := cell_new wr _ 36 rfl
        have q2 : (wr.alloc (.cells #[.int .i64 s.kd, .string (bt s.ky), .string (bt s.vl), .int .i64 s.n] 36)).cell? ⟨wr.heap.size, 2, none⟩ = some (.string (bt s.vl)) := cell_new wr _ 36 rfl
        have q3 : (wr.alloc (.cells #[.int .i64 s.kd, .string (bt s.ky), .string (bt s.vl), .int .i64 s.n] 36)).cell? ⟨wr.heap.size, 3, none⟩ = some (.int .i64 s.n) := cell_new wr _ 36 rfl
        have hdl := hd.sz
        have t1 := grown_cell hga (show wr.cell? ⟨w2.heap.size + 1, 1, none⟩ = some (.func (.func 46) #[] #[]) by simp [World.cell?, ht, tabO])
        have t2 := grown_cell hga (show wr.cell? ⟨w2.heap.size + 1, 2, none⟩ = some (.func (.func 47) #[] #[]) by simp [World.cell?, ht, tabO])
        have t3 := grown_cell hga (show wr.cell? ⟨w2.heap.size + 1, 3, none⟩ = some (.func (.func 48) #[] #[]) by simp [World.cell?, ht, tabO])
        have t4 := grown_cell hga (show wr.cell? ⟨w2.heap.size + 1, 4, none⟩ = some (.func (.func 49) #[] #[]) by simp [World.cell?, ht, tabO])
        have hdeed : Hid (∀ w', (wr.alloc (.cells #[.int .i64 s.kd, .string (bt s.ky), .string (bt s.vl), .int .i64 s.n] 36)).grownBy w' none → ∀ f : Nat, (f : Int) = 45 + s.kd → Calls Tryd.prog f #[ptr w2.heap.size, s.val] w' fun r w5 => r = .returned (.int .i64 x) ∧ Below w.heap.size w w5 ∧ (x = 0 → Dos w w5 w2.heap.size tb L xs (i + 1))) := ⟨fun w' hg f hf => by
          have hgg := grown_none hga hg
          have hb2 : Below w.heap.size w w' := hb.grown hgg hb.size (fun _ e => by cases e)
          refine (deed_any w' (hd.keep hgg) (hT.out.kept fun j hj hl => hb2.block j (hS j hj)) (hD.out.below hb2 (Nat.le_refl _)) s hok hsr (by omega) (by omega) hvL.out (fun y hy => (hvW y hy).1) f hf hxe).mono ?_
          rintro r w5 ⟨rfl, hB, hnx⟩
          have hb5 : Below w.heap.size w w5 := hb2.trans (hB.1.mono hle)
          refine ⟨rfl, hb5, fun h0 => ?_⟩
          obtain ⟨wv', cv', hd'⟩ := hnx h0
          have l1 := stW_len L ws s
          have l2 := stC_len s
          refine ⟨⟨wv', cv', _, _, hd', ?_, by simp; omega, by simp; omega, fun y hy => ?_⟩, hb5, ?_, hle⟩
          · rw [hdo, hdr, doX, if_pos (by rw [hxe.out]; exact h0)]
          · rcases List.mem_append.1 hy with hy | hy
            · exact hvW y hy
            · exact stW_vals hsr y hy
          · rw [hB.2 (by have := hgg.size; omega), hgg.block (w2.heap.size + 1) (by omega) (by simp)]
            exact ht⟩
        have hdx : Hid (x ≠ 0 → (doX L xs [] []).1 = x) := ⟨fun h => by rw [hdo, hdr, doX, if_neg (by rw [hxe.out]; exact h)]; exact hxe.out⟩
        have hn1 : i < xs.length := hlt
        have hn2 : (i : Int) < (xs.length : Int) := by omega
        have hn3 : (0 : Int) ≤ (i : Int) := by omega
        obtain ⟨kd, ky, vl, n⟩ := s
        simp only [Sp.val] at hdeed
        simp only at hkk q0 q1 q2 q3
        replace hga : Hid _ := ⟨hga⟩
        replace hs : Hid _ := ⟨hs⟩
        clear hR hd hdo hw1 hc1 hvW hb ht hle hdr hxe hok hsr
        rcases hkk with rfl | rfl | rfl | rfl
        · go_wp2_with fail
          refine wp_region_any (by kernel_rfl) ?_
          change wpAny _ _ _ _ _ _ _ (World.drew _)
          refine wpAny_take (i := 0) (v := ?_) rfl (by kernel_rfl) (by kernel_rfl) (by kernel_rfl) (fun _ _ _ h => h) (Or.inl ⟨by rfl, ?_⟩) ?_
          rotate_left
          · (intro w; go_simp; try with_reducible rfl)
          try simp only [List.getElem_toArray, List.getElem_cons_zero, List.getElem_cons_succ, Act.put, List.setIfInBounds_toArray, List.set_cons_zero, List.set_cons_succ]
          refine wpAny_ready (rs := [1, 4]) (by kernel_rfl) (by simp) ?_
          refine AllReady.cons rfl (fun K hK => ?_) (AllReady.cons rfl (fun K hK => ?_) (AllReady.nil))
          · go_simp
            refine hK _ _ ?_
            clear hK K
            try simp only [List.getElem_toArray, List.getElem_cons_zero, List.getElem_cons_succ, Act.put, List.setIfInBounds_toArray, List.set_cons_zero, List.set_cons_succ]
            refine wpAny_ready (rs := [2, 4]) (by kernel_rfl) (by simp) ?_
            refine AllReady.cons rfl (fun K hK => ?_) (AllReady.cons rfl (fun K hK => ?_) (AllReady.nil))
            · go_simp
              refine hK _ _ ?_
              clear hK K
              try simp only [List.getElem_toArray, List.getElem_cons_zero, List.getElem_cons_succ, Act.put, List.setIfInBounds_toArray, List.set_cons_zero, List.set_cons_succ]
              refine wpAny_ready (rs := [3, 4]) (by kernel_rfl) (by simp) ?_
              refine AllReady.cons rfl (fun K hK => ?_) (AllReady.cons rfl (fun K hK => ?_) (AllReady.nil))
              · go_simp
                refine hK _ _ ?_
                clear hK K
                try simp only [List.getElem_toArray, List.getElem_cons_zero, List.getElem_cons_succ, Act.put, List.setIfInBounds_toArray, List.set_cons_zero, List.set_cons_succ]
                refine wpAny_ready (rs := [4]) (by kernel_rfl) (by simp) ?_
                refine AllReady.cons rfl (fun K hK => ?_) (AllReady.nil)
                go_simp
                refine hK _ _ ?_
                clear hK K
                try simp only [List.getElem_toArray, List.getElem_cons_zero, List.getElem_cons_succ, Act.put, List.setIfInBounds_toArray, List.set_cons_zero, List.set_cons_succ]
                refine wpAny_ready (rs := [5]) (by kernel_rfl) (by simp) ?_
                refine AllReady.cons rfl (fun K hK => ?_) (AllReady.nil)
                go_simp
                go_at_call 46
                refine (hdeed.out _ (grown_drew _) 46 (by omega)).mono ?_
                rintro r w5 ⟨rfl, h5, h6⟩
                refine hK _ _ ?_
                clear hK K
                try simp only [List.getElem_toArray, List.getElem_cons_zero, List.getElem_cons_succ, Act.put, List.setIfInBounds_toArray, List.set_cons_zero, List.set_cons_succ]
                refine wpAny_ready (rs := [6]) (by kernel_rfl) (by simp) ?_
                refine AllReady.cons rfl (fun K hK => ?_) (AllReady.nil)
                go_simp
                refine hK _ _ ?_
                clear hK K
                try simp only [List.getElem_toArray, List.getElem_cons_zero, List.getElem_cons_succ, Act.put, List.setIfInBounds_toArray, List.set_cons_zero, List.set_cons_succ]
                refine wpAny_done (by kernel_rfl) ?_ _
                by_cases hx0 : x = 0
                · subst hx0
                  have h7 : Hid _ := ⟨h6 rfl⟩
                  clear h5 h6
                  go_wp2_with fail
                  exact ⟨⟨i + 1, by go_num, by omega, h7⟩, by simp [intOf] <;> omega⟩
                · clear h6
                  go_wp2
                  go_ret2
                  exact ⟨fun h => absurd hd0.out h, fun _ _ => ⟨by rw [hdx.out hx0]; rfl, below_grown h5⟩, fun _ h => absurd ((hdx.out hx0).symm.trans h) hx0⟩
              · go_simp
                refine hK _ _ ?_
                clear hK K
                try simp only [List.getElem_toArray, List.getElem_cons_zero, List.getElem_cons_succ, Act.put, List.setIfInBounds_toArray, List.set_cons_zero, List.set_cons_succ]
                refine wpAny_ready (rs := [3]) (by kernel_rfl) (by simp) ?_
                refine AllReady.cons rfl (fun K hK => ?_) (AllReady.nil)
                go_simp
                refine hK _ _ ?_
                clear hK K
                try simp only [List.getElem_toArray, List.getElem_cons_zero, List.getElem_cons_succ, Act.put, List.setIfInBounds_toArray, List.set_cons_zero, List.set_cons_succ]
                refine wpAny_ready (rs := [5]) (by kernel_rfl) (by simp) ?_
                refine AllReady.cons rfl (fun K hK => ?_) (AllReady.nil)
                go_simp
                go_at_call 46
                refine (hdeed.out _ (grown_drew _) 46 (by omega)).mono ?_
                rintro r w5 ⟨rfl, h5, h6⟩
                refine hK _ _ ?_
                clear hK K
                try simp only [List.getElem_toArray, List.getElem_cons_zero, List.getElem_cons_succ, Act.put, List.setIfInBounds_toArray, List.set_cons_zero, List.set_cons_succ]
                refine wpAny_ready (rs := [6]) (by kernel_rfl) (by simp) ?_
                refine AllReady.cons rfl (fun K hK => ?_) (AllReady.nil)
                go_simp
                refine hK _ _ ?_
                clear hK K
                try simp only [List.getElem_toArray, List.getElem_cons_zero, List.getElem_cons_succ, Act.put, List.setIfInBounds_toArray, List.set_cons_zero, List.set_cons_succ]
                refine wpAny_done (by kernel_rfl) ?_ _
                by_cases hx0 : x = 0
                · subst hx0
                  have h7 : Hid _ := ⟨h6 rfl⟩
                  clear h5 h6
                  go_wp2_with fail
                  exact ⟨⟨i + 1, by go_num, by omega, h7⟩, by simp [intOf] <;> omega⟩
                · clear h6
                  go_wp2
                  go_ret2
                  exact ⟨fun h => absurd hd0.out h, fun _ _ => ⟨by rw [hdx.out hx0]; rfl, below_grown h5⟩, fun _ h => absurd ((hdx.out hx0).symm.trans h) hx0⟩
            · go_simp
              refine hK _ _ ?_
              clear hK K
              try simp only [List.getElem_toArray, List.getElem_cons_zero, List.getElem_cons_succ, Act.put, List.setIfInBounds_toArray, List.set_cons_zero, List.set_cons_succ]
              refine wpAny_ready (rs := [2]) (by kernel_rfl) (by simp) ?_
              refine AllReady.cons rfl (fun K hK => ?_) (AllReady.nil)
              go_simp
              refine hK _ _ ?_
              clear hK K
              try simp only [List.getElem_toArray, List.getElem_cons_zero, List.getElem_cons_succ, Act.put, List.setIfInBounds_toArray, List.set_cons_zero, List.set_cons_succ]
              refine wpAny_ready (rs := [3]) (by kernel_rfl) (by simp) ?_
              refine AllReady.cons rfl (fun K hK => ?_) (AllReady.nil)
              go_simp
              refine hK _ _ ?_
              clear hK K
              try simp only [List.getElem_toArray, List.getElem_cons_zero, List.getElem_cons_succ, Act.put, List.setIfInBounds_toArray, List.set_cons_zero, List.set_cons_succ]
              refine wpAny_ready (rs := [5]) (by kernel_rfl) (by simp) ?_
              refine AllReady.cons rfl (fun K hK => ?_) (AllReady.nil)
              go_simp
              go_at_call 46
              refine (hdeed.out _ (grown_drew _) 46 (by omega)).mono ?_
              rintro r w5 ⟨rfl, h5, h6⟩
              refine hK _ _ ?_
              clear hK K
              try simp only [List.getElem_toArray, List.getElem_cons_zero, List.getElem_cons_succ, Act.put, List.setIfInBounds_toArray, List.set_cons_zero, List.set_cons_succ]
              refine wpAny_ready (rs := [6]) (by kernel_rfl) (by simp) ?_
              refine AllReady.cons rfl (fun K hK => ?_) (AllReady.nil)
              go_simp
              refine hK _ _ ?_
              clear hK K
              try simp only [List.getElem_toArray, List.getElem_cons_zero, List.getElem_cons_succ, Act.put, List.setIfInBounds_toArray, List.set_cons_zero, List.set_cons_succ]
              refine wpAny_done (by kernel_rfl) ?_ _
              by_cases hx0 : x = 0
              · subst hx0
                have h7 : Hid _ := ⟨h6 rfl⟩
                clear h5 h6
                go_wp2_with fail
                exact ⟨⟨i + 1, by go_num, by omega, h7⟩, by simp [intOf] <;> omega⟩
              · clear h6
                go_wp2
                go_ret2
                exact ⟨fun h => absurd hd0.out h, fun _ _ => ⟨by rw [hdx.out hx0]; rfl, below_grown h5⟩, fun _ h => absurd ((hdx.out hx0).symm.trans h) hx0⟩
          · go_simp
            refine hK _ _ ?_
            clear hK K
            try simp only [List.getElem_toArray, List.getElem_cons_zero, List.getElem_cons_succ, Act.put, List.setIfInBounds_toArray, List.set_cons_zero, List.set_cons_succ]
            refine wpAny_ready (rs := [1]) (by kernel_rfl) (by simp) ?_
            refine AllReady.cons rfl (fun K hK => ?_) (AllReady.nil)
            go_simp
            refine hK _ _ ?_
            clear hK K
            try simp only [List.getElem_toArray, List.getElem_cons_zero, List.getElem_cons_succ, Act.put, List.setIfInBounds_toArray, List.set_cons_zero, List.set_cons_succ]
            refine wpAny_ready (rs := [2]) (by kernel_rfl) (by simp) ?_
            refine AllReady.cons rfl (fun K hK => ?_) (AllReady.nil)
            go_simp
            refine hK _ _ ?_
            clear hK K
            try simp only [List.getElem_toArray, List.getElem_cons_zero, List.getElem_cons_succ, Act.put, List.setIfInBounds_toArray, List.set_cons_zero, List.set_cons_succ]
            refine wpAny_ready (rs := [3]) (by kernel_rfl) (by simp) ?_
            refine AllReady.cons rfl (fun K hK => ?_) (AllReady.nil)
            go_simp
            refine hK _ _ ?_
            clear hK K
            try simp only [List.getElem_toArray, List.getElem_cons_zero, List.getElem_cons_succ, Act.put, List.setIfInBounds_toArray, List.set_cons_zero, List.set_cons_succ]
            refine wpAny_ready (rs := [5]) (by kernel_rfl) (by simp) ?_
            refine AllReady.cons rfl (fun K hK => ?_) (AllReady.nil)
            go_simp
            go_at_call 46
            refine (hdeed.out _ (grown_drew _) 46 (by omega)).mono ?_
            rintro r w5 ⟨rfl, h5, h6⟩
            refine hK _ _ ?_
            clear hK K
            try simp only [List.getElem_toArray, List.getElem_cons_zero, List.getElem_cons_succ, Act.put, List.setIfInBounds_toArray, List.set_cons_zero, List.set_cons_succ]
            refine wpAny_ready (rs := [6]) (by kernel_rfl) (by simp) ?_
            refine AllReady.cons rfl (fun K hK => ?_) (AllReady.nil)
            go_simp
            refine hK _ _ ?_
            clear hK K
            try simp only [List.getElem_toArray, List.getElem_cons_zero, List.getElem_cons_succ, Act.put, List.setIfInBounds_toArray, List.set_cons_zero, List.set_cons_succ]
            refine wpAny_done (by kernel_rfl) ?_ _
            by_cases hx0 : x = 0
            · subst hx0
              have h7 : Hid _ := ⟨h6 rfl⟩
              clear h5 h6
              go_wp2_with fail
              exact ⟨⟨i + 1, by go_num, by omega, h7⟩, by simp [intOf] <;> omega⟩
            · clear h6
              go_wp2
              go_ret2
              exact ⟨fun h => absurd hd0.out h, fun _ _ => ⟨by rw [hdx.out hx0]; rfl, below_grown h5⟩, fun _ h => absurd ((hdx.out hx0).symm.trans h) hx0⟩
        · go_wp2_with fail
          refine wp_region_any (by kernel_rfl) ?_
          change wpAny _ _ _ _ _ _ _ (World.drew _)
          refine wpAny_take (i := 0) (v := ?_) rfl (by kernel_rfl) (by kernel_rfl) (by kernel_rfl) (fun _ _ _ h => h) (Or.inl ⟨by rfl, ?_⟩) ?_
          rotate_left
          · (intro w; go_simp; try with_reducible rfl)
          try simp only [List.getElem_toArray, List.getElem_cons_zero, List.getElem_cons_succ, Act.put, List.setIfInBounds_toArray, List.set_cons_zero, List.set_cons_succ]
          refine wpAny_ready (rs := [1, 4]) (by kernel_rfl) (by simp) ?_
          refine AllReady.cons rfl (fun K hK => ?_) (AllReady.cons rfl (fun K hK => ?_) (AllReady.nil))
          · go_simp
            refine hK _ _ ?_
            clear hK K
            try simp only [List.getElem_toArray, List.getElem_cons_zero, List.getElem_cons_succ, Act.put, List.setIfInBounds_toArray, List.set_cons_zero, List.set_cons_succ]
            refine wpAny_ready (rs := [2, 4]) (by kernel_rfl) (by simp) ?_
            refine AllReady.cons rfl (fun K hK => ?_) (AllReady.cons rfl (fun K hK => ?_) (AllReady.nil))
            · go_simp
              refine hK _ _ ?_
              clear hK K
              try simp only [List.getElem_toArray, List.getElem_cons_zero, List.getElem_cons_succ, Act.put, List.setIfInBounds_toArray, List.set_cons_zero, List.set_cons_succ]
              refine wpAny_ready (rs := [3, 4]) (by kernel_rfl) (by simp) ?_
              refine AllReady.cons rfl (fun K hK => ?_) (AllReady.cons rfl (fun K hK => ?_) (AllReady.nil))
              · go_simp
                refine hK _ _ ?_
                clear hK K
                try simp only [List.getElem_toArray, List.getElem_cons_zero, List.getElem_cons_succ, Act.put, List.setIfInBounds_toArray, List.set_cons_zero, List.set_cons_succ]
                refine wpAny_ready (rs := [4]) (by kernel_rfl) (by simp) ?_
                refine AllReady.cons rfl (fun K hK => ?_) (AllReady.nil)
                go_simp
                refine hK _ _ ?_
                clear hK K
                try simp only [List.getElem_toArray, List.getElem_cons_zero, List.getElem_cons_succ, Act.put, List.setIfInBounds_toArray, List.set_cons_zero, List.set_cons_succ]
                refine wpAny_ready (rs := [5]) (by kernel_rfl) (by simp) ?_
                refine AllReady.cons rfl (fun K hK => ?_) (AllReady.nil)
                go_simp
                go_at_call 47
                refine (hdeed.out _ (grown_drew _) 47 (by omega)).mono ?_
                rintro r w5 ⟨rfl, h5, h6⟩
                refine hK _ _ ?_
                clear hK K
                try simp only [List.getElem_toArray, List.getElem_cons_zero, List.getElem_cons_succ, Act.put, List.setIfInBounds_toArray, List.set_cons_zero, List.set_cons_succ]
                refine wpAny_ready (rs := [6]) (by kernel_rfl) (by simp) ?_
                refine AllReady.cons rfl (fun K hK => ?_) (AllReady.nil)
                go_simp
                refine hK _ _ ?_
                clear hK K
                try simp only [List.getElem_toArray, List.getElem_cons_zero, List.getElem_cons_succ, Act.put, List.setIfInBounds_toArray, List.set_cons_zero, List.set_cons_succ]
                refine wpAny_done (by kernel_rfl) ?_ _
                by_cases hx0 : x = 0
                · subst hx0
                  have h7 : Hid _ := ⟨h6 rfl⟩
                  clear h5 h6
                  go_wp2_with fail
                  exact ⟨⟨i + 1, by go_num, by omega, h7⟩, by simp [intOf] <;> omega⟩
                · clear h6
                  go_wp2
                  go_ret2
                  exact ⟨fun h => absurd hd0.out h, fun _ _ => ⟨by rw [hdx.out hx0]; rfl, below_grown h5⟩, fun _ h => absurd ((hdx.out hx0).symm.trans h) hx0⟩
              · go_simp
                refine hK _ _ ?_
                clear hK K
                try simp only [List.getElem_toArray, List.getElem_cons_zero, List.getElem_cons_succ, Act.put, List.setIfInBounds_toArray, List.set_cons_zero, List.set_cons_succ]
                refine wpAny_ready (rs := [3]) (by kernel_rfl) (by simp) ?_
                refine AllReady.cons rfl (fun K hK => ?_) (AllReady.nil)
                go_simp
                refine hK _ _ ?_
                clear hK K
                try simp only [List.getElem_toArray, List.getElem_cons_zero, List.getElem_cons_succ, Act.put, List.setIfInBounds_toArray, List.set_cons_zero, List.set_cons_succ]
                refine wpAny_ready (rs := [5]) (by kernel_rfl) (by simp) ?_
                refine AllReady.cons rfl (fun K hK => ?_) (AllReady.nil)
                go_simp
                go_at_call 47
                refine (hdeed.out _ (grown_drew _) 47 (by omega)).mono ?_
                rintro r w5 ⟨rfl, h5, h6⟩
                refine hK _ _ ?_
                clear hK K
                try simp only [List.getElem_toArray, List.getElem_cons_zero, List.getElem_cons_succ, Act.put, List.setIfInBounds_toArray, List.set_cons_zero, List.set_cons_succ]
                refine wpAny_ready (rs := [6]) (by kernel_rfl) (by simp) ?_
                refine AllReady.cons rfl (fun K hK => ?_) (AllReady.nil)
                go_simp
                refine hK _ _ ?_
                clear hK K
                try simp only [List.getElem_toArray, List.getElem_cons_zero, List.getElem_cons_succ, Act.put, List.setIfInBounds_toArray, List.set_cons_zero, List.set_cons_succ]
                refine wpAny_done (by kernel_rfl) ?_ _
                by_cases hx0 : x = 0
                · subst hx0
                  have h7 : Hid _ := ⟨h6 rfl⟩
                  clear h5 h6
                  go_wp2_with fail
                  exact ⟨⟨i + 1, by go_num, by omega, h7⟩, by simp [intOf] <;> omega⟩
                · clear h6
                  go_wp2
                  go_ret2
                  exact ⟨fun h => absurd hd0.out h, fun _ _ => ⟨by rw [hdx.out hx0]; rfl, below_grown h5⟩, fun _ h => absurd ((hdx.out hx0).symm.trans h) hx0⟩
            · go_simp
              refine hK _ _ ?_
              clear hK K
              try simp only [List.getElem_toArray, List.getElem_cons_zero, List.getElem_cons_succ, Act.put, List.setIfInBounds_toArray, List.set_cons_zero, List.set_cons_succ]
              refine wpAny_ready (rs := [2]) (by kernel_rfl) (by simp) ?_
              refine AllReady.cons rfl (fun K hK => ?_) (AllReady.nil)
              go_simp
              refine hK _ _ ?_
              clear hK K
              try simp only [List.getElem_toArray, List.getElem_cons_zero, List.getElem_cons_succ, Act.put, List.setIfInBounds_toArray, List.set_cons_zero, List.set_cons_succ]
              refine wpAny_ready (rs := [3]) (by kernel_rfl) (by simp) ?_
              refine AllReady.cons rfl (fun K hK => ?_) (AllReady.nil)
              go_simp
              refine hK _ _ ?_
              clear hK K
              try simp only [List.getElem_toArray, List.getElem_cons_zero, List.getElem_cons_succ, Act.put, List.setIfInBounds_toArray, List.set_cons_zero, List.set_cons_succ]
              refine wpAny_ready (rs := [5]) (by kernel_rfl) (by simp) ?_
              refine AllReady.cons rfl (fun K hK => ?_) (AllReady.nil)
              go_simp
              go_at_call 47
              refine (hdeed.out _ (grown_drew _) 47 (by omega)).mono ?_
              rintro r w5 ⟨rfl, h5, h6⟩
              refine hK _ _ ?_
              clear hK K
              try simp only [List.getElem_toArray, List.getElem_cons_zero, List.getElem_cons_succ, Act.put, List.setIfInBounds_toArray, List.set_cons_zero, List.set_cons_succ]
              refine wpAny_ready (rs := [6]) (by kernel_rfl) (by simp) ?_
              refine AllReady.cons rfl (fun K hK => ?_) (AllReady.nil)
              go_simp
              refine hK _ _ ?_
              clear hK K
              try simp only [List.getElem_toArray, List.getElem_cons_zero, List.getElem_cons_succ, Act.put, List.setIfInBounds_toArray, List.set_cons_zero, List.set_cons_succ]
              refine wpAny_done (by kernel_rfl) ?_ _
              by_cases hx0 : x = 0
              · subst hx0
                have h7 : Hid _ := ⟨h6 rfl⟩
                clear h5 h6
                go_wp2_with fail
                exact ⟨⟨i + 1, by go_num, by omega, h7⟩, by simp [intOf] <;> omega⟩
              · clear h6
                go_wp2
                go_ret2
                exact ⟨fun h => absurd hd0.out h, fun _ _ => ⟨by rw [hdx.out hx0]; rfl, below_grown h5⟩, fun _ h => absurd ((hdx.out hx0).symm.trans h) hx0⟩
          · go_simp
            refine hK _ _ ?_
            clear hK K
            try simp only [List.getElem_toArray, List.getElem_cons_zero, List.getElem_cons_succ, Act.put, List.setIfInBounds_toArray, List.set_cons_zero, List.set_cons_succ]
            refine wpAny_ready (rs := [1]) (by kernel_rfl) (by simp) ?_
            refine AllReady.cons rfl (fun K hK => ?_) (AllReady.nil)
            go_simp
            refine hK _ _ ?_
            clear hK K
            try simp only [List.getElem_toArray, List.getElem_cons_zero, List.getElem_cons_succ, Act.put, List.setIfInBounds_toArray, List.set_cons_zero, List.set_cons_succ]
            refine wpAny_ready (rs := [2]) (by kernel_rfl) (by simp) ?_
            refine AllReady.cons rfl (fun K hK => ?_) (AllReady.nil)
            go_simp
            refine hK _ _ ?_
            clear hK K
            try simp only [List.getElem_toArray, List.getElem_cons_zero, List.getElem_cons_succ, Act.put, List.setIfInBounds_toArray, List.set_cons_zero, List.set_cons_succ]
            refine wpAny_ready (rs := [3]) (by kernel_rfl) (by simp) ?_
            refine AllReady.cons rfl (fun K hK => ?_) (AllReady.nil)
            go_simp
            refine hK _ _ ?_
            clear hK K
            try simp only [List.getElem_toArray, List.getElem_cons_zero, List.getElem_cons_succ, Act.put, List.setIfInBounds_toArray, List.set_cons_zero, List.set_cons_succ]
            refine wpAny_ready (rs := [5]) (by kernel_rfl) (by simp) ?_
            refine AllReady.cons rfl (fun K hK => ?_) (AllReady.nil)
            go_simp
            go_at_call 47
            refine (hdeed.out _ (grown_drew _) 47 (by omega)).mono ?_
            rintro r w5 ⟨rfl, h5, h6⟩
            refine hK _ _ ?_
            clear hK K
            try simp only [List.getElem_toArray, List.getElem_cons_zero, List.getElem_cons_succ, Act.put, List.setIfInBounds_toArray, List.set_cons_zero, List.set_cons_succ]
            refine wpAny_ready (rs := [6]) (by kernel_rfl) (by simp) ?_
            refine AllReady.cons rfl (fun K hK => ?_) (AllReady.nil)
            go_simp
            refine hK _ _ ?_
            clear hK K
            try simp only [List.getElem_toArray, List.getElem_cons_zero, List.getElem_cons_succ, Act.put, List.setIfInBounds_toArray, List.set_cons_zero, List.set_cons_succ]
            refine wpAny_done (by kernel_rfl) ?_ _
            by_cases hx0 : x = 0
            · subst hx0
              have h7 : Hid _ := ⟨h6 rfl⟩
              clear h5 h6
              go_wp2_with fail
              exact ⟨⟨i + 1, by go_num, by omega, h7⟩, by simp [intOf] <;> omega⟩
            · clear h6
              go_wp2
              go_ret2
              exact ⟨fun h => absurd hd0.out h, fun _ _ => ⟨by rw [hdx.out hx0]; rfl, below_grown h5⟩, fun _ h => absurd ((hdx.out hx0).symm.trans h) hx0⟩
        · go_wp2_with fail
          refine wp_region_any (by kernel_rfl) ?_
          change wpAny _ _ _ _ _ _ _ (World.drew _)
          refine wpAny_take (i := 0) (v := ?_) rfl (by kernel_rfl) (by kernel_rfl) (by kernel_rfl) (fun _ _ _ h => h) (Or.inl ⟨by rfl, ?_⟩) ?_
          rotate_left
          · (intro w; go_simp; try with_reducible rfl)
          try simp only [List.getElem_toArray, List.getElem_cons_zero, List.getElem_cons_succ, Act.put, List.setIfInBounds_toArray, List.set_cons_zero, List.set_cons_succ]
          refine wpAny_ready (rs := [1, 4]) (by kernel_rfl) (by simp) ?_
          refine AllReady.cons rfl (fun K hK => ?_) (AllReady.cons rfl (fun K hK => ?_) (AllReady.nil))
          · go_simp
            refine hK _ _ ?_
            clear hK K
            try simp only [List.getElem_toArray, List.getElem_cons_zero, List.getElem_cons_succ, Act.put, List.setIfInBounds_toArray, List.set_cons_zero, List.set_cons_succ]
            refine wpAny_ready (rs := [2, 4]) (by kernel_rfl) (by simp) ?_
            refine AllReady.cons rfl (fun K hK => ?_) (AllReady.cons rfl (fun K hK => ?_) (AllReady.nil))
            · go_simp
              refine hK _ _ ?_
              clear hK K
              try simp only [List.getElem_toArray, List.getElem_cons_zero, List.getElem_cons_succ, Act.put, List.setIfInBounds_toArray, List.set_cons_zero, List.set_cons_succ]
              refine wpAny_ready (rs := [3, 4]) (by kernel_rfl) (by simp) ?_
              refine AllReady.cons rfl (fun K hK => ?_) (AllReady.cons rfl (fun K hK => ?_) (AllReady.nil))
              · go_simp
                refine hK _ _ ?_
                clear hK K
                try simp only [List.getElem_toArray, List.getElem_cons_zero, List.getElem_cons_succ, Act.put, List.setIfInBounds_toArray, List.set_cons_zero, List.set_cons_succ]
                refine wpAny_ready (rs := [4]) (by kernel_rfl) (by simp) ?_
                refine AllReady.cons rfl (fun K hK => ?_) (AllReady.nil)
                go_simp
                refine hK _ _ ?_
                clear hK K
                try simp only [List.getElem_toArray, List.getElem_cons_zero, List.getElem_cons_succ, Act.put, List.setIfInBounds_toArray, List.set_cons_zero, List.set_cons_succ]
                refine wpAny_ready (rs := [5]) (by kernel_rfl) (by simp) ?_
                refine AllReady.cons rfl (fun K hK => ?_) (AllReady.nil)
                go_simp
                go_at_call 48
                refine (hdeed.out _ (grown_drew _) 48 (by omega)).mono ?_
                rintro r w5 ⟨rfl, h5, h6⟩
                refine hK _ _ ?_
                clear hK K
                try simp only [List.getElem_toArray, List.getElem_cons_zero, List.getElem_cons_succ, Act.put, List.setIfInBounds_toArray, List.set_cons_zero, List.set_cons_succ]
                refine wpAny_ready (rs := [6]) (by kernel_rfl) (by simp) ?_
                refine AllReady.cons rfl (fun K hK => ?_) (AllReady.nil)
                go_simp
                refine hK _ _ ?_
                clear hK K
                try simp only [List.getElem_toArray, List.getElem_cons_zero, List.getElem_cons_succ, Act.put, List.setIfInBounds_toArray, List.set_cons_zero, List.set_cons_succ]
                refine wpAny_done (by kernel_rfl) ?_ _
                by_cases hx0 : x = 0
                · subst hx0
                  have h7 : Hid _ := ⟨h6 rfl⟩
                  clear h5 h6
                  go_wp2_with fail
                  exact ⟨⟨i + 1, by go_num, by omega, h7⟩, by simp [intOf] <;> omega⟩
                · clear h6
                  go_wp2
                  go_ret2
                  exact ⟨fun h => absurd hd0.out h, fun _ _ => ⟨by rw [hdx.out hx0]; rfl, below_grown h5⟩, fun _ h => absurd ((hdx.out hx0).symm.trans h) hx0⟩
              · go_simp
                refine hK _ _ ?_
                clear hK K
                try simp only [List.getElem_toArray, List.getElem_cons_zero, List.getElem_cons_succ, Act.put, List.setIfInBounds_toArray, List.set_cons_zero, List.set_cons_succ]
                refine wpAny_ready (rs := [3]) (by kernel_rfl) (by simp) ?_
                refine AllReady.cons rfl (fun K hK => ?_) (AllReady.nil)
                go_simp
                refine hK _ _ ?_
                clear hK K
                try simp only [List.getElem_toArray, List.getElem_cons_zero, List.getElem_cons_succ, Act.put, List.setIfInBounds_toArray, List.set_cons_zero, List.set_cons_succ]
                refine wpAny_ready (rs := [5]) (by kernel_rfl) (by simp) ?_
                refine AllReady.cons rfl (fun K hK => ?_) (AllReady.nil)
                go_simp
                go_at_call 48
                refine (hdeed.out _ (grown_drew _) 48 (by omega)).mono ?_
                rintro r w5 ⟨rfl, h5, h6⟩
                refine hK _ _ ?_
                clear hK K
                try simp only [List.getElem_toArray, List.getElem_cons_zero, List.getElem_cons_succ, Act.put, List.setIfInBounds_toArray, List.set_cons_zero, List.set_cons_succ]
                refine wpAny_ready (rs := [6]) (by kernel_rfl) (by simp) ?_
                refine AllReady.cons rfl (fun K hK => ?_) (AllReady.nil)
                go_simp
                refine hK _ _ ?_
                clear hK K
                try simp only [List.getElem_toArray, List.getElem_cons_zero, List.getElem_cons_succ, Act.put, List.setIfInBounds_toArray, List.set_cons_zero, List.set_cons_succ]
                refine wpAny_done (by kernel_rfl) ?_ _
                by_cases hx0 : x = 0
                · subst hx0
                  have h7 : Hid _ := ⟨h6 rfl⟩
                  clear h5 h6
                  go_wp2_with fail
                  exact ⟨⟨i + 1, by go_num, by omega, h7⟩, by simp [intOf] <;> omega⟩
                · clear h6
                  go_wp2
                  go_ret2
                  exact ⟨fun h => absurd hd0.out h, fun _ _ => ⟨by rw [hdx.out hx0]; rfl, below_grown h5⟩, fun _ h => absurd ((hdx.out hx0).symm.trans h) hx0⟩
            · go_simp
              refine hK _ _ ?_
              clear hK K
              try simp only [List.getElem_toArray, List.getElem_cons_zero, List.getElem_cons_succ, Act.put, List.setIfInBounds_toArray, List.set_cons_zero, List.set_cons_succ]
              refine wpAny_ready (rs := [2]) (by kernel_rfl) (by simp) ?_
              refine AllReady.cons rfl (fun K hK => ?_) (AllReady.nil)
              go_simp
              refine hK _ _ ?_
              clear hK K
              try simp only [List.getElem_toArray, List.getElem_cons_zero, List.getElem_cons_succ, Act.put, List.setIfInBounds_toArray, List.set_cons_zero, List.set_cons_succ]
              refine wpAny_ready (rs := [3]) (by kernel_rfl) (by simp) ?_
              refine AllReady.cons rfl (fun K hK => ?_) (AllReady.nil)
              go_simp
              refine hK _ _ ?_
              clear hK K
              try simp only [List.getElem_toArray, List.getElem_cons_zero, List.getElem_cons_succ, Act.put, List.setIfInBounds_toArray, List.set_cons_zero, List.set_cons_succ]
              refine wpAny_ready (rs := [5]) (by kernel_rfl) (by simp) ?_
              refine AllReady.cons rfl (fun K hK => ?_) (AllReady.nil)
              go_simp
              go_at_call 48
              refine (hdeed.out _ (grown_drew _) 48 (by omega)).mono ?_
              rintro r w5 ⟨rfl, h5, h6⟩
              refine hK _ _ ?_
              clear hK K
              try simp only [List.getElem_toArray, List.getElem_cons_zero, List.getElem_cons_succ, Act.put, List.setIfInBounds_toArray, List.set_cons_zero, List.set_cons_succ]
              refine wpAny_ready (rs := [6]) (by kernel_rfl) (by simp) ?_
              refine AllReady.cons rfl (fun K hK => ?_) (AllReady.nil)
              go_simp
              refine hK _ _ ?_
              clear hK K
              try simp only [List.getElem_toArray, List.getElem_cons_zero, List.getElem_cons_succ, Act.put, List.setIfInBounds_toArray, List.set_cons_zero, List.set_cons_succ]
              refine wpAny_done (by kernel_rfl) ?_ _
              by_cases hx0 : x = 0
              · subst hx0
                have h7 : Hid _ := ⟨h6 rfl⟩
                clear h5 h6
                go_wp2_with fail
                exact ⟨⟨i + 1, by go_num, by omega, h7⟩, by simp [intOf] <;> omega⟩
              · clear h6
                go_wp2
                go_ret2
                exact ⟨fun h => absurd hd0.out h, fun _ _ => ⟨by rw [hdx.out hx0]; rfl, below_grown h5⟩, fun _ h => absurd ((hdx.out hx0).symm.trans h) hx0⟩
          · go_simp
            refine hK _ _ ?_
            clear hK K
            try simp only [List.getElem_toArray, List.getElem_cons_zero, List.getElem_cons_succ, Act.put, List.setIfInBounds_toArray, List.set_cons_zero, List.set_cons_succ]
            refine wpAny_ready (rs := [1]) (by kernel_rfl) (by simp) ?_
            refine AllReady.cons rfl (fun K hK => ?_) (AllReady.nil)
            go_simp
            refine hK _ _ ?_
            clear hK K
            try simp only [List.getElem_toArray, List.getElem_cons_zero, List.getElem_cons_succ, Act.put, List.setIfInBounds_toArray, List.set_cons_zero, List.set_cons_succ]
            refine wpAny_ready (rs := [2]) (by kernel_rfl) (by simp) ?_
            refine AllReady.cons rfl (fun K hK => ?_) (AllReady.nil)
            go_simp
            refine hK _ _ ?_
            clear hK K
            try simp only [List.getElem_toArray, List.getElem_cons_zero, List.getElem_cons_succ, Act.put, List.setIfInBounds_toArray, List.set_cons_zero, List.set_cons_succ]
            refine wpAny_ready (rs := [3]) (by kernel_rfl) (by simp) ?_
            refine AllReady.cons rfl (fun K hK => ?_) (AllReady.nil)
            go_simp
            refine hK _ _ ?_
            clear hK K
            try simp only [List.getElem_toArray, List.getElem_cons_zero, List.getElem_cons_succ, Act.put, List.setIfInBounds_toArray, List.set_cons_zero, List.set_cons_succ]
            refine wpAny_ready (rs := [5]) (by kernel_rfl) (by simp) ?_
            refine AllReady.cons rfl (fun K hK => ?_) (AllReady.nil)
            go_simp
            go_at_call 48
            refine (hdeed.out _ (grown_drew _) 48 (by omega)).mono ?_
            rintro r w5 ⟨rfl, h5, h6⟩
            refine hK _ _ ?_
            clear hK K
            try simp only [List.getElem_toArray, List.getElem_cons_zero, List.getElem_cons_succ, Act.put, List.setIfInBounds_toArray, List.set_cons_zero, List.set_cons_succ]
            refine wpAny_ready (rs := [6]) (by kernel_rfl) (by simp) ?_
            refine AllReady.cons rfl (fun K hK => ?_) (AllReady.nil)
            go_simp
            refine hK _ _ ?_
            clear hK K
            try simp only [List.getElem_toArray, List.getElem_cons_zero, List.getElem_cons_succ, Act.put, List.setIfInBounds_toArray, List.set_cons_zero, List.set_cons_succ]
            refine wpAny_done (by kernel_rfl) ?_ _
            by_cases hx0 : x = 0
            · subst hx0
              have h7 : Hid _ := ⟨h6 rfl⟩
              clear h5 h6
              go_wp2_with fail
              exact ⟨⟨i + 1, by go_num, by omega, h7⟩, by simp [intOf] <;> omega⟩
            · clear h6
              go_wp2
              go_ret2
              exact ⟨fun h => absurd hd0.out h, fun _ _ => ⟨by rw [hdx.out hx0]; rfl, below_grown h5⟩, fun _ h => absurd ((hdx.out hx0).symm.trans h) hx0⟩
        · go_wp2_with fail
          refine wp_region_any (by kernel_rfl) ?_
          change wpAny _ _ _ _ _ _ _ (World.drew _)
          refine wpAny_take (i := 0) (v := ?_) rfl (by kernel_rfl) (by kernel_rfl) (by kernel_rfl) (fun _ _ _ h => h) (Or.inl ⟨by rfl, ?_⟩) ?_
          rotate_left
          · (intro w; go_simp; try with_reducible rfl)
          try simp only [List.getElem_toArray, List.getElem_cons_zero, List.getElem_cons_succ, Act.put, List.setIfInBounds_toArray, List.set_cons_zero, List.set_cons_succ]
          refine wpAny_ready (rs := [1, 4]) (by kernel_rfl) (by simp) ?_
          refine AllReady.cons rfl (fun K hK => ?_) (AllReady.cons rfl (fun K hK => ?_) (AllReady.nil))
          · go_simp
            refine hK _ _ ?_
            clear hK K
            try simp only [List.getElem_toArray, List.getElem_cons_zero, List.getElem_cons_succ, Act.put, List.setIfInBounds_toArray, List.set_cons_zero, List.set_cons_succ]
            refine wpAny_ready (rs := [2, 4]) (by kernel_rfl) (by simp) ?_
            refine AllReady.cons rfl (fun K hK => ?_) (AllReady.cons rfl (fun K hK => ?_) (AllReady.nil))
            · go_simp
              refine hK _ _ ?_
              clear hK K
              try simp only [List.getElem_toArray, List.getElem_cons_zero, List.getElem_cons_succ, Act.put, List.setIfInBounds_toArray, List.set_cons_zero, List.set_cons_succ]
              refine wpAny_ready (rs := [3, 4]) (by kernel_rfl) (by simp) ?_
              refine AllReady.cons rfl (fun K hK => ?_) (AllReady.cons rfl (fun K hK => ?_) (AllReady.nil))
              · go_simp
                refine hK _ _ ?_
                clear hK K
                try simp only [List.getElem_toArray, List.getElem_cons_zero, List.getElem_cons_succ, Act.put, List.setIfInBounds_toArray, List.set_cons_zero, List.set_cons_succ]
                refine wpAny_ready (rs := [4]) (by kernel_rfl) (by simp) ?_
                refine AllReady.cons rfl (fun K hK => ?_) (AllReady.nil)
                go_simp
                refine hK _ _ ?_
                clear hK K
                try simp only [List.getElem_toArray, List.getElem_cons_zero, List.getElem_cons_succ, Act.put, List.setIfInBounds_toArray, List.set_cons_zero, List.set_cons_succ]
                refine wpAny_ready (rs := [5]) (by kernel_rfl) (by simp) ?_
                refine AllReady.cons rfl (fun K hK => ?_) (AllReady.nil)
                go_simp
                go_at_call 49
                refine (hdeed.out _ (grown_drew _) 49 (by omega)).mono ?_
                rintro r w5 ⟨rfl, h5, h6⟩
                refine hK _ _ ?_
                clear hK K
                try simp only [List.getElem_toArray, List.getElem_cons_zero, List.getElem_cons_succ, Act.put, List.setIfInBounds_toArray, List.set_cons_zero, List.set_cons_succ]
                refine wpAny_ready (rs := [6]) (by kernel_rfl) (by simp) ?_
                refine AllReady.cons rfl (fun K hK => ?_) (AllReady.nil)
                go_simp
                refine hK _ _ ?_
                clear hK K
                try simp only [List.getElem_toArray, List.getElem_cons_zero, List.getElem_cons_succ, Act.put, List.setIfInBounds_toArray, List.set_cons_zero, List.set_cons_succ]
                refine wpAny_done (by kernel_rfl) ?_ _
                by_cases hx0 : x = 0
                · subst hx0
                  have h7 : Hid _ := ⟨h6 rfl⟩
                  clear h5 h6
                  go_wp2_with fail
                  exact ⟨⟨i + 1, by go_num, by omega, h7⟩, by simp [intOf] <;> omega⟩
                · clear h6
                  go_wp2
                  go_ret2
                  exact ⟨fun h => absurd hd0.out h, fun _ _ => ⟨by rw [hdx.out hx0]; rfl, below_grown h5⟩, fun _ h => absurd ((hdx.out hx0).symm.trans h) hx0⟩
              · go_simp
                refine hK _ _ ?_
                clear hK K
                try simp only [List.getElem_toArray, List.getElem_cons_zero, List.getElem_cons_succ, Act.put, List.setIfInBounds_toArray, List.set_cons_zero, List.set_cons_succ]
                refine wpAny_ready (rs := [3]) (by kernel_rfl) (by simp) ?_
                refine AllReady.cons rfl (fun K hK => ?_) (AllReady.nil)
                go_simp
                refine hK _ _ ?_
                clear hK K
                try simp only [List.getElem_toArray, List.getElem_cons_zero, List.getElem_cons_succ, Act.put, List.setIfInBounds_toArray, List.set_cons_zero, List.set_cons_succ]
                refine wpAny_ready (rs := [5]) (by kernel_rfl) (by simp) ?_
                refine AllReady.cons rfl (fun K hK => ?_) (AllReady.nil)
                go_simp
                go_at_call 49
                refine (hdeed.out _ (grown_drew _) 49 (by omega)).mono ?_
                rintro r w5 ⟨rfl, h5, h6⟩
                refine hK _ _ ?_
                clear hK K
                try simp only [List.getElem_toArray, List.getElem_cons_zero, List.getElem_cons_succ, Act.put, List.setIfInBounds_toArray, List.set_cons_zero, List.set_cons_succ]
                refine wpAny_ready (rs := [6]) (by kernel_rfl) (by simp) ?_
                refine AllReady.cons rfl (fun K hK => ?_) (AllReady.nil)
                go_simp
                refine hK _ _ ?_
                clear hK K
                try simp only [List.getElem_toArray, List.getElem_cons_zero, List.getElem_cons_succ, Act.put, List.setIfInBounds_toArray, List.set_cons_zero, List.set_cons_succ]
                refine wpAny_done (by kernel_rfl) ?_ _
                by_cases hx0 : x = 0
                · subst hx0
                  have h7 : Hid _ := ⟨h6 rfl⟩
                  clear h5 h6
                  go_wp2_with fail
                  exact ⟨⟨i + 1, by go_num, by omega, h7⟩, by simp [intOf] <;> omega⟩
                · clear h6
                  go_wp2
                  go_ret2
                  exact ⟨fun h => absurd hd0.out h, fun _ _ => ⟨by rw [hdx.out hx0]; rfl, below_grown h5⟩, fun _ h => absurd ((hdx.out hx0).symm.trans h) hx0⟩
            · go_simp
              refine hK _ _ ?_
              clear hK K
              try simp only [List.getElem_toArray, List.getElem_cons_zero, List.getElem_cons_succ, Act.put, List.setIfInBounds_toArray, List.set_cons_zero, List.set_cons_succ]
              refine wpAny_ready (rs := [2]) (by kernel_rfl) (by simp) ?_
              refine AllReady.cons rfl (fun K hK => ?_) (AllReady.nil)
              go_simp
              refine hK _ _ ?_
              clear hK K
              try simp only [List.getElem_toArray, List.getElem_cons_zero, List.getElem_cons_succ, Act.put, List.setIfInBounds_toArray, List.set_cons_zero, List.set_cons_succ]
              refine wpAny_ready (rs := [3]) (by kernel_rfl) (by simp) ?_
              refine AllReady.cons rfl (fun K hK => ?_) (AllReady.nil)
              go_simp
              refine hK _ _ ?_
              clear hK K
              try simp only [List.getElem_toArray, List.getElem_cons_zero, List.getElem_cons_succ, Act.put, List.setIfInBounds_toArray, List.set_cons_zero, List.set_cons_succ]
              refine wpAny_ready (rs := [5]) (by kernel_rfl) (by simp) ?_
              refine AllReady.cons rfl (fun K hK => ?_) (AllReady.nil)
              go_simp
              go_at_call 49
              refine (hdeed.out _ (grown_drew _) 49 (by omega)).mono ?_
              rintro r w5 ⟨rfl, h5, h6⟩
              refine hK _ _ ?_
              clear hK K
              try simp only [List.getElem_toArray, List.getElem_cons_zero, List.getElem_cons_succ, Act.put, List.setIfInBounds_toArray, List.set_cons_zero, List.set_cons_succ]
              refine wpAny_ready (rs := [6]) (by kernel_rfl) (by simp) ?_
              refine AllReady.cons rfl (fun K hK => ?_) (AllReady.nil)
              go_simp
              refine hK _ _ ?_
              clear hK K
              try simp only [List.getElem_toArray, List.getElem_cons_zero, List.getElem_cons_succ, Act.put, List.setIfInBounds_toArray, List.set_cons_zero, List.set_cons_succ]
              refine wpAny_done (by kernel_rfl) ?_ _
              by_cases hx0 : x = 0
              · subst hx0
                have h7 : Hid _ := ⟨h6 rfl⟩
                clear h5 h6
                go_wp2_with fail
                exact ⟨⟨i + 1, by go_num, by omega, h7⟩, by simp [intOf] <;> omega⟩
              · clear h6
                go_wp2
                go_ret2
                exact ⟨fun h => absurd hd0.out h, fun _ _ => ⟨by rw [hdx.out hx0]; rfl, below_grown h5⟩, fun _ h => absurd ((hdx.out hx0).symm.trans h) hx0⟩
          · go_simp
            refine hK _ _ ?_
            clear hK K
            try simp only [List.getElem_toArray, List.getElem_cons_zero, List.getElem_cons_succ, Act.put, List.setIfInBounds_toArray, List.set_cons_zero, List.set_cons_succ]
            refine wpAny_ready (rs := [1]) (by kernel_rfl) (by simp) ?_
            refine AllReady.cons rfl (fun K hK => ?_) (AllReady.nil)
            go_simp
            refine hK _ _ ?_
            clear hK K
            try simp only [List.getElem_toArray, List.getElem_cons_zero, List.getElem_cons_succ, Act.put, List.setIfInBounds_toArray, List.set_cons_zero, List.set_cons_succ]
            refine wpAny_ready (rs := [2]) (by kernel_rfl) (by simp) ?_
            refine AllReady.cons rfl (fun K hK => ?_) (AllReady.nil)
            go_simp
            refine hK _ _ ?_
            clear hK K
            try simp only [List.getElem_toArray, List.getElem_cons_zero, List.getElem_cons_succ, Act.put, List.setIfInBounds_toArray, List.set_cons_zero, List.set_cons_succ]
            refine wpAny_ready (rs := [3]) (by kernel_rfl) (by simp) ?_
            refine AllReady.cons rfl (fun K hK => ?_) (AllReady.nil)
            go_simp
            refine hK _ _ ?_
            clear hK K
            try simp only [List.getElem_toArray, List.getElem_cons_zero, List.getElem_cons_succ, Act.put, List.setIfInBounds_toArray, List.set_cons_zero, List.set_cons_succ]
            refine wpAny_ready (rs := [5]) (by kernel_rfl) (by simp) ?_
            refine AllReady.cons rfl (fun K hK => ?_) (AllReady.nil)
            go_simp
            go_at_call 49
            refine (hdeed.out _ (grown_drew _) 49 (by omega)).mono ?_
            rintro r w5 ⟨rfl, h5, h6⟩
            refine hK _ _ ?_
            clear hK K
            try simp only [List.getElem_toArray, List.getElem_cons_zero, List.getElem_cons_succ, Act.put, List.setIfInBounds_toArray, List.set_cons_zero, List.set_cons_succ]
            refine wpAny_ready (rs := [6]) (by kernel_rfl) (by simp) ?_
            refine AllReady.cons rfl (fun K hK => ?_) (AllReady.nil)
            go_simp
            refine hK _ _ ?_
            clear hK K
            try simp only [List.getElem_toArray, List.getElem_cons_zero, List.getElem_cons_succ, Act.put, List.setIfInBounds_toArray, List.set_cons_zero, List.set_cons_succ]
            refine wpAny_done (by kernel_rfl) ?_ _
            by_cases hx0 : x = 0
            · subst hx0
              have h7 : Hid _ := ⟨h6 rfl⟩
              clear h5 h6
              go_wp2_with fail
              exact ⟨⟨i + 1, by go_num, by omega, h7⟩, by simp [intOf] <;> omega⟩
            · clear h6
              go_wp2
              go_ret2
              exact ⟨fun h => absurd hd0.out h, fun _ _ => ⟨by rw [hdx.out hx0]; rfl, below_grown h5⟩, fun _ h => absurd ((hdx.out hx0).symm.trans h) hx0⟩
      · have hdi : decide ((i : Int) < xs.length) = false := by simp; omega
        have hie : i = xs.length := by omega
        obtain ⟨⟨wv, cv, ws, cs, hd, hdo, hw1, hc1, hvW⟩, hb, ht, hle⟩ := hR.out
        rw [hie, List.drop_length] at hdo
        have hdo2 : doX L xs [] [] = (0, ws, cs) := hdo
        have hSw : ∀ j, S j → j < w2.heap.size := fun j hj => Nat.lt_of_lt_of_le (hS j hj) hle
        have hcar := carry_any wr hd (hT.out.kept fun j hj hl => hb.block j (hS j hj)) hSw (fun x hx => by have := (hvW x hx).2; omega) (by have := hall.1; omega)
        replace hcar : Hid _ := ⟨hcar⟩
        replace hd : Hid _ := ⟨hd⟩
        replace hdo2 : Hid _ := ⟨hdo2⟩
        replace hb : Hid _ := ⟨hb⟩
        have hL3 : Hid (ws.length ≤ 4) := ⟨by have := hall.1; omega⟩
        clear hR hdo hvW ht hw1 hc1
        go_wp2_with fail
        refine hcar.out.mono ?_
        rintro r w5 ⟨rfl, hd5, hc5⟩
        have c2 : w5.cell? ⟨w2.heap.size, 2, none⟩ = some cv := by simp [World.cell?, hd5.blk]
        have hfin : Hid (w5.ownsRow w.heap.size 9 1 cv cs.length (cellsK cs) ∧ Cod S w w5 tb (L.length + 4) (wrAll L ws)) := ⟨own_less hd5.rc (by omega), by
          obtain ⟨⟨S', h1, h2⟩, h3, h4⟩ := hc5
          have hs := hb.out.size
          have hl4 := hL3.out
          exact ⟨⟨S', h1, fun j hj => (h2 j hj).imp id fun e => by omega⟩, (Kp.of0 (below_grown hb.out)).trans h3 (fun _ _ h => h), by omega⟩⟩
        clear hcar hd hd5 hc5 hL3 hb hdi
        go_wp2
        go_ret2
        refine ⟨fun h => absurd hd0.out h, fun _ h => absurd (by rw [hdo2.out]) h, fun _ _ => ⟨cv, rfl, ?_, ?_⟩⟩
        · rw [hdo2.out]; exact hfin.out.1
        · rw [hdo2.out]; exact hfin.out.2
  · have hfin : Hid (w.grownBy w1 none) := ⟨hg1⟩
    clear hg1
    go_wp2
    go_ret2
    exact ⟨fun _ => ⟨rfl, hfin.out⟩, fun h => absurd h h0, fun h => absurd h h0⟩
end Go.Proofs.YtmahpceokpajgaaDoor
