/- belfrylaw08.built: a trie behind a script. -/
import Derived.Test.YtpcdmjalfabbmaaNilw
import Derived.Test.YtpcdmjalfabbmaaDro
namespace Go.Proofs.Ytpcdmjalfabbmaa
open Go.RowKit Go.IntWalk Go.Maps Go.Shelf
set_option linter.unusedVariables false
/-- A trie in blocks that are new since W, below m; of at most n entries, each of at most 40 bytes. -/
structure Bst (m : Nat) (W w : World) (tb : Nat) (L : List E) (n : Nat) : Prop where
  ex : ∃ S : Nat → Prop, Tri S w tb L ∧ ∀ j, S j → W.heap.size ≤ j ∧ j < m
  mm : m ≤ w.heap.size
  len : L.length ≤ n
  key : ∀ x ∈ L, x.k.length ≤ 40
  g : W.grownBy w none
section
variable {m : Nat} {W w w' : World} {tb : Nat} {L : List E} {n : Nat}
theorem Bst.srt (h : Bst m W w tb L n) : Srt L := by obtain ⟨S, h1, _⟩ := h.ex; exact h1.srt
theorem Bst.keep (h : Bst m W w tb L n) (hg : w.grownBy w' none) : Bst m W w' tb L n := by
  obtain ⟨S, h1, h2⟩ := h.ex
  exact ⟨⟨S, h1.keep hg, h2⟩, Nat.le_trans h.mm hg.size, h.len, h.key, grown_none h.g hg⟩
theorem Bst.more (h : Bst m W w tb L n) {n' : Nat} (hn : n ≤ n') : Bst m W w tb L n' := ⟨h.ex, h.mm, Nat.le_trans h.len hn, h.key, h.g⟩
theorem Bst.below (h : Bst m W w tb L n) : Below W.heap.size W w := below_of h.g
theorem bst_put (h : Bst m W w tb L n) (k : K) (v : ByteArray) (hk : k.length ≤ 40) (hn : n ≤ 1000) {o : Option ByteArray} (ho : Hid (gt L k = o)) : Calls Try.prog 12 #[ptr tb, .string (bt k), .string v] w fun r w' => r = .returned (.tuple #[.string (vOf o), .bool o.isSome]) ∧ Bst w'.heap.size W w' tb (putE ⟨k, v⟩ L) (n + 1) ∧ ∀ j, m ≤ j → j < w.heap.size → w'.heap[j]? = w.heap[j]? := by
  obtain ⟨S, h1, h2⟩ := h.ex
  have hl := h.len
  refine (put_e h1 k v (by omega) (by omega) ho ⟨rfl⟩).mono ?_
  rintro r w' ⟨rfl, h3, h4⟩
  have hp := putE_le h1.srt ⟨k, v⟩
  have hw := h.g.size
  have hw2 := h4.size
  have hm := h.mm
  refine ⟨rfl, ⟨⟨_, h3, fun j hj => ?_⟩, Nat.le_refl _, by omega, fun x hx => ?_, h4.none h.g fun j hj => (h2 j hj).1⟩, fun j hj hj2 => h4.block j hj2 fun hs => ?_⟩
  · rcases hj with hj | hj
    · have := h2 j hj
      omega
    · omega
  · rcases mem_putE.1 hx with rfl | ⟨hx, _⟩
    · exact hk
    · exact h.key x hx
  · have := h2 j hs
    omega
theorem bst_drop (h : Bst m W w tb L n) (k : K) (hk : k.length ≤ 40) {o : Option ByteArray} (ho : Hid (gt L k = o)) : Calls Try.prog 14 #[ptr tb, .string (bt k)] w fun r w' => r = .returned (.tuple #[.string (vOf o), .bool o.isSome]) ∧ Bst m W w' tb (delE k L) n ∧ ∀ j, m ≤ j → j < w.heap.size → w'.heap[j]? = w.heap[j]? := by
  obtain ⟨S, h1, h2⟩ := h.ex
  refine (drop_any w h1 k (by omega) ho).mono ?_
  rintro r w' ⟨rfl, h3, h4⟩
  have hp := delE_le k L
  have hm := h.mm
  refine ⟨rfl, ⟨⟨_, h3, h2⟩, Nat.le_trans h.mm h4.size, Nat.le_trans hp h.len, fun x hx => h.key x (mem_delE.1 hx).1, h4.none h.g fun j hj => (h2 j hj).1⟩, fun j hj hj2 => h4.block j hj2 fun hs => ?_⟩
  have := h2 j hs
  omega
end
set_option maxRecDepth 100000 in
set_option maxHeartbeats 8000000 in
theorem built_any (W : World) {v : Value} {xs : List Ac} (ha : Acs W.heap.size W v xs) : Calls Try.prog 27 #[v] W fun r w' => ∃ tb L, r = .returned (ptr tb) ∧ Bst w'.heap.size W w' tb L 120 := by
  obtain ⟨a, cap, rfl, hxl⟩ := ha.shape
  unfold maxLen at hxl
  go_enter Try.func27, Try.ntmps27
  go_wp2_with fail
  refine (new_any W).mono ?_
  rintro r w1 ⟨tb, rfl, hs1, hg1⟩
  have hB1 : Bst w1.heap.size W w1 tb [] 0 := ⟨⟨_, hs1, fun j h => h⟩, Nat.le_refl _, by simp, by simp, hg1⟩
  replace hB1 : Hid _ := ⟨hB1⟩
  clear hs1 hg1
  go_wp2_with fail
  go_loopw [4] (fun v wr => ∃ (i : Nat) (L : List E), v = .int .i64 i ∧ i ≤ xs.length ∧ i ≤ 120 ∧ Hid (Bst wr.heap.size W wr tb L i))
    (fun v _ => 120 - (intOf v).toNat)
  case atStart => exact ⟨0, [], rfl, by omega, by omega, hB1⟩
  case round =>
    clear hB1
    obtain ⟨i, L, rfl, hi, hi2, hS⟩ := hrel
    by_cases hgo : i < xs.length ∧ i < 120
    · obtain ⟨hlt, h120⟩ := hgo
      have hd1 : decide ((i : Int) < xs.length) = true := by simp; omega
      have hd2 : decide ((i : Int) < 120) = true := by simp; omega
      obtain ⟨x, hx⟩ : ∃ x, xs[i]? = some x := ⟨xs[i], List.getElem?_eq_getElem hlt⟩
      obtain ⟨b, off, rfl, hb, hok, c0, c1, c2⟩ := (ha.below hS.out.below).at hx
      obtain ⟨B, hB⟩ : ∃ B, wr.heap.size = B := ⟨_, rfl⟩
      have hga := World.grownBy_alloc wr (.cells #[.int .i64 x.kd, .string (bt x.ky), .string x.vl] 30) none
      have d0 := cell_new wr #[.int .i64 x.kd, .string (bt x.ky), .string x.vl] 30 (i := 0) rfl
      have d1 := cell_new wr #[.int .i64 x.kd, .string (bt x.ky), .string x.vl] 30 (i := 1) rfl
      have d2 := cell_new wr #[.int .i64 x.kd, .string (bt x.ky), .string x.vl] 30 (i := 2) rfl
      have hnew := World.alloc_heap_new wr (.cells #[.int .i64 x.kd, .string (bt x.ky), .string x.vl] 30)
      have hS2 := hS.out.keep hga
      have hsz : (wr.alloc (.cells #[.int .i64 x.kd, .string (bt x.ky), .string x.vl] 30)).heap.size = B + 1 := by simp [hB]
      rw [hB] at d0 d1 d2 hnew hS2
      have z1 := bt_size x.ky
      have hx1 := hok.2.1
      have hx2 := hok.2.2
      unfold maxLen at hx1 hx2
      replace hS2 : Hid _ := ⟨hS2⟩
      replace hga : Hid _ := ⟨hga⟩
      replace hnew : Hid _ := ⟨hnew⟩
      replace hok : Hid _ := ⟨hok⟩
      clear hx hS
      by_cases hk : x.ky.length ≤ 40
      · have ek : (x.ky.length : Int) ≤ 40 := by omega
        by_cases hv : x.vl.size ≤ 40
        · have ev : (x.vl.size : Int) ≤ 40 := by omega
          by_cases hk1 : x.kd = 1
          · have e1 : (x.kd == 1) = true := by simp; omega
            have e2 : (x.kd == 2) = false := by simp; omega
            clear hk1
            go_wp2_with fail
            refine (bst_put hS2.out x.ky x.vl hk (by omega) ⟨rfl⟩).mono ?_
            rintro r w3 ⟨rfl, hS3, hkeep⟩
            have hb3 := (hkeep B (by omega) (by omega)).trans hnew.out
            have f0 : w3.cell? ⟨B, 0, none⟩ = some (.int .i64 x.kd) := by simp [World.cell?, hb3]
            have f1 : w3.cell? ⟨B, 1, none⟩ = some (.string (bt x.ky)) := by simp [World.cell?, hb3]
            replace hS3 : Hid _ := ⟨hS3⟩
            clear hkeep hb3 d0 d1 d2
            go_wp2_with fail
            exact ⟨⟨i + 1, _, by go_num, by omega, by omega, hS3⟩, by simp [intOf]; omega⟩
          · by_cases hk2 : x.kd = 2
            · have e1 : (x.kd == 1) = false := by simp; omega
              have e2 : (x.kd == 2) = true := by simp; omega
              clear hk2
              go_wp2_with fail
              refine (bst_drop hS2.out x.ky hk ⟨rfl⟩).mono ?_
              rintro r w3 ⟨rfl, hS3, hkeep⟩
              have hS4 : Bst w3.heap.size W w3 tb (delE x.ky L) (i + 1) := by
                obtain ⟨S, h1, h2⟩ := hS3.ex
                exact ⟨⟨S, h1, fun j hj => by have := h2 j hj; have := hS3.mm; omega⟩, Nat.le_refl _, Nat.le_trans hS3.len (by omega), hS3.key, hS3.g⟩
              replace hS4 : Hid _ := ⟨hS4⟩
              clear hkeep hS3
              go_wp2_with fail
              exact ⟨⟨i + 1, _, by go_num, by omega, by omega, hS4⟩, by simp [intOf]; omega⟩
            · have e1 : (x.kd == 1) = false := by simp; omega
              have e2 : (x.kd == 2) = false := by simp; omega
              have hS3 := hS2.out.more (Nat.le_succ i)
              have hS4 : Bst (wr.alloc (.cells #[.int .i64 x.kd, .string (bt x.ky), .string x.vl] 30)).heap.size W (wr.alloc (.cells #[.int .i64 x.kd, .string (bt x.ky), .string x.vl] 30)) tb L (i + 1) := by
                obtain ⟨S, h1, h2⟩ := hS3.ex
                exact ⟨⟨S, h1, fun j hj => by have := h2 j hj; omega⟩, Nat.le_refl _, hS3.len, hS3.key, hS3.g⟩
              replace hS4 : Hid _ := ⟨hS4⟩
              clear hS3
              go_wp2_with fail
              exact ⟨⟨i + 1, L, by go_num, by omega, by omega, hS4⟩, by simp [intOf]; omega⟩
        · have ev : decide ((x.vl.size : Int) ≤ 40) = false := by simp; omega
          by_cases hk1 : x.kd = 1
          · have e1 : (x.kd == 1) = true := by simp; omega
            have e2 : (x.kd == 2) = false := by simp; omega
            clear hk1
            have hS3 := hS2.out.more (Nat.le_succ i)
            have hS4 : Bst (wr.alloc (.cells #[.int .i64 x.kd, .string (bt x.ky), .string x.vl] 30)).heap.size W (wr.alloc (.cells #[.int .i64 x.kd, .string (bt x.ky), .string x.vl] 30)) tb L (i + 1) := by
              obtain ⟨S, h1, h2⟩ := hS3.ex
              exact ⟨⟨S, h1, fun j hj => by have := h2 j hj; omega⟩, Nat.le_refl _, hS3.len, hS3.key, hS3.g⟩
            replace hS4 : Hid _ := ⟨hS4⟩
            clear hS3
            go_wp2_with fail
            exact ⟨⟨i + 1, L, by go_num, by omega, by omega, hS4⟩, by simp [intOf]; omega⟩
          · by_cases hk2 : x.kd = 2
            · have e1 : (x.kd == 1) = false := by simp; omega
              have e2 : (x.kd == 2) = true := by simp; omega
              clear hk2
              go_wp2_with fail
              refine (bst_drop hS2.out x.ky hk ⟨rfl⟩).mono ?_
              rintro r w3 ⟨rfl, hS3, hkeep⟩
              have hS4 : Bst w3.heap.size W w3 tb (delE x.ky L) (i + 1) := by
                obtain ⟨S, h1, h2⟩ := hS3.ex
                exact ⟨⟨S, h1, fun j hj => by have := h2 j hj; have := hS3.mm; omega⟩, Nat.le_refl _, Nat.le_trans hS3.len (by omega), hS3.key, hS3.g⟩
              replace hS4 : Hid _ := ⟨hS4⟩
              clear hkeep hS3
              go_wp2_with fail
              exact ⟨⟨i + 1, _, by go_num, by omega, by omega, hS4⟩, by simp [intOf]; omega⟩
            · have e1 : (x.kd == 1) = false := by simp; omega
              have e2 : (x.kd == 2) = false := by simp; omega
              have hS3 := hS2.out.more (Nat.le_succ i)
              have hS4 : Bst (wr.alloc (.cells #[.int .i64 x.kd, .string (bt x.ky), .string x.vl] 30)).heap.size W (wr.alloc (.cells #[.int .i64 x.kd, .string (bt x.ky), .string x.vl] 30)) tb L (i + 1) := by
                obtain ⟨S, h1, h2⟩ := hS3.ex
                exact ⟨⟨S, h1, fun j hj => by have := h2 j hj; omega⟩, Nat.le_refl _, hS3.len, hS3.key, hS3.g⟩
              replace hS4 : Hid _ := ⟨hS4⟩
              clear hS3
              go_wp2_with fail
              exact ⟨⟨i + 1, L, by go_num, by omega, by omega, hS4⟩, by simp [intOf]; omega⟩
      · have ek : decide ((x.ky.length : Int) ≤ 40) = false := by simp; omega
        have hS3 := hS2.out.more (Nat.le_succ i)
        have hS4 : Bst (wr.alloc (.cells #[.int .i64 x.kd, .string (bt x.ky), .string x.vl] 30)).heap.size W (wr.alloc (.cells #[.int .i64 x.kd, .string (bt x.ky), .string x.vl] 30)) tb L (i + 1) := by
          obtain ⟨S, h1, h2⟩ := hS3.ex
          exact ⟨⟨S, h1, fun j hj => by have := h2 j hj; omega⟩, Nat.le_refl _, hS3.len, hS3.key, hS3.g⟩
        replace hS4 : Hid _ := ⟨hS4⟩
        clear hS3
        go_wp2_with fail
        exact ⟨⟨i + 1, L, by go_num, by omega, by omega, hS4⟩, by simp [intOf]; omega⟩
    · have hd : decide ((i : Int) < xs.length) = false ∨ (decide ((i : Int) < xs.length) = true ∧ decide ((i : Int) < 120) = false) := by
        by_cases h : i < xs.length
        · exact .inr ⟨by simp; omega, by simp; omega⟩
        · exact .inl (by simp; omega)
      have hfin : Hid (Bst wr.heap.size W wr tb L 120) := ⟨hS.out.more hi2⟩
      clear hS
      rcases hd with hd | ⟨hd, hd2⟩
      · go_wp2
        all_goals (go_ret; exact ⟨tb, L, rfl, hfin.out⟩)
      · go_wp2
        all_goals (go_ret; exact ⟨tb, L, rfl, hfin.out⟩)
end Go.Proofs.Ytpcdmjalfabbmaa
