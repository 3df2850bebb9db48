/- A trie, a copy of it, and what the first one had at the start, in a row of its own. -/
import Derived.Test.YtpcdmjalfabbmaaCpy
import Derived.Test.YtpcdmjalfabbmaaTwo
namespace Go.Proofs.Ytpcdmjalfabbmaa
open Go.RowKit Go.IntWalk Go.Maps Go.Shelf
set_option linter.unusedVariables false
theorem rw33_of {w : World} {base : Nat} {v : Value} {es : List E} (h : w.ownsRow base 33 2 v es.length (cellsE es)) : Rw 33 w v es := ⟨h.1, h.2.imp id fun ⟨g, cap, cur, e, hb, rest⟩ => ⟨g, cap, cur, e, Nat.zero_le _, rest⟩⟩
/-- Two tries in blocks that are new since W, apart: entries L and M; a row ls of the entries A, in neither. -/
structure Tct (W w : World) (tb ub : Nat) (L M : List E) (ls : Value) (A : List E) : Prop where
  ex : ∃ St Su : Nat → Prop, Tri St w tb L ∧ Tri Su w ub M ∧ (∀ j, St j → W.heap.size ≤ j ∧ j < w.heap.size) ∧ (∀ j, Su j → W.heap.size ≤ j ∧ j < w.heap.size) ∧ (∀ j, St j → ¬ Su j) ∧ ∀ g, ls.ownBlock = some g → ¬ St g ∧ ¬ Su g
  row : Rw 33 w ls A
  g : W.grownBy w none
section
variable {W w w' : World} {tb ub : Nat} {L M A : List E} {ls : Value}
theorem Tct.keep (h : Tct W w tb ub L M ls A) (hg : w.grownBy w' none) : Tct W w' tb ub L M ls A := by
  obtain ⟨St, Su, h1, h2, h3, h4, h5, h6⟩ := h.ex
  have := hg.size
  exact ⟨⟨St, Su, h1.keep hg, h2.keep hg, fun j hj => ⟨(h3 j hj).1, by have := (h3 j hj).2; omega⟩, fun j hj => ⟨(h4 j hj).1, by have := (h4 j hj).2; omega⟩, h5, h6⟩, World.ownsRow.kept h.row hg (Classical.em _), grown_none h.g hg⟩
theorem Tct.below (h : Tct W w tb ub L M ls A) : Below W.heap.size W w := below_of h.g
theorem Tct.rowlt (h : Tct W w tb ub L M ls A) {g : Nat} (hg : ls.ownBlock = some g) : g < w.heap.size := by
  rcases h.row.2 with ⟨e, _⟩ | ⟨g', cp, cur, e, _, hg6, _⟩
  · rw [e] at hg; cases hg
  · rw [e] at hg
    simp only [Value.ownBlock, Option.some.injEq] at hg
    subst hg
    exact (Array.getElem?_eq_some_iff.1 hg6).1
theorem Tct.srtL (h : Tct W w tb ub L M ls A) : Srt L := by obtain ⟨St, Su, h1, _⟩ := h.ex; exact h1.srt
theorem tc_put (h : Tct W w tb ub L M ls A) (k : K) (v : ByteArray) (hk : k.length ≤ 100000) (hl : M.length < 100000) : Calls Try.prog 12 #[ptr ub, .string (bt k), .string v] w fun r w' => (∃ x y, r = .returned (.tuple #[x, y])) ∧ (∃ M', Tct W w' tb ub L M' ls A ∧ M'.length ≤ M.length + 1) := by
  obtain ⟨St, Su, h1, h2, h3, h4, h5, h6⟩ := h.ex
  refine (put_any w h2 k v hk hl).mono ?_
  rintro r w' ⟨rfl, h7, h8⟩
  have hsz := h8.size
  have hgs := h.g.size
  refine ⟨⟨_, _, rfl⟩, _, ⟨⟨St, _, h1.kept fun j hj hj2 => h8.block j hj2 (h5 j hj), h7, fun j hj => ⟨(h3 j hj).1, by have := (h3 j hj).2; omega⟩, fun j hj => ?_, fun j hj hj2 => ?_, fun g hg => ⟨(h6 g hg).1, fun hj2 => ?_⟩⟩, Rw.kept h.row fun g hg => h8.block g (h.rowlt hg) (h6 g hg).2, h8.none h.g fun j hj => (h4 j hj).1⟩, putE_le h2.srt ⟨k, v⟩⟩
  · rcases hj with hj | hj
    · have := h4 j hj; omega
    · omega
  · rcases hj2 with h | h
    · exact h5 j hj h
    · have := (h3 j hj).2; omega
  · rcases hj2 with h' | h'
    · exact (h6 g hg).2 h'
    · have := h.rowlt hg; omega
theorem tc_drop (h : Tct W w tb ub L M ls A) (k : K) (hk : k.length ≤ 100000) : Calls Try.prog 14 #[ptr ub, .string (bt k)] w fun r w' => (∃ x y, r = .returned (.tuple #[x, y])) ∧ (∃ M', Tct W w' tb ub L M' ls A ∧ M'.length ≤ M.length) := by
  obtain ⟨St, Su, h1, h2, h3, h4, h5, h6⟩ := h.ex
  refine (drop_any w h2 k (by omega) ⟨rfl⟩).mono ?_
  rintro r w' ⟨rfl, h7, h8⟩
  have hsz := h8.size
  exact ⟨⟨_, _, rfl⟩, _, ⟨⟨St, Su, h1.kept fun j hj hj2 => h8.block j hj2 (h5 j hj), h7, fun j hj => ⟨(h3 j hj).1, by have := (h3 j hj).2; omega⟩, fun j hj => ⟨(h4 j hj).1, by have := (h4 j hj).2; omega⟩, h5, h6⟩, Rw.kept h.row fun g hg => h8.block g (h.rowlt hg) (h6 g hg).2, h8.none h.g fun j hj => (h4 j hj).1⟩, delE_le k M⟩
theorem tc_dropT (h : Tct W w tb ub L M ls A) (k : K) (hk : k.length ≤ 100000) {D : List E} (hD : Hid (delE k L = D)) : Calls Try.prog 14 #[ptr tb, .string (bt k)] w fun r w' => (∃ x y, r = .returned (.tuple #[x, y])) ∧ Tct W w' tb ub D M ls A := by
  obtain ⟨St, Su, h1, h2, h3, h4, h5, h6⟩ := h.ex
  refine (drop_any w h1 k (by omega) ⟨rfl⟩).mono ?_
  rintro r w' ⟨rfl, h7, h8⟩
  rw [hD.out] at h7
  have hsz := h8.size
  exact ⟨⟨_, _, rfl⟩, ⟨St, Su, h7, h2.kept fun j hj hj2 => h8.block j hj2 (fun hs => h5 j hs hj), fun j hj => ⟨(h3 j hj).1, by have := (h3 j hj).2; omega⟩, fun j hj => ⟨(h4 j hj).1, by have := (h4 j hj).2; omega⟩, h5, h6⟩, Rw.kept h.row fun g hg => h8.block g (h.rowlt hg) (h6 g hg).1, h8.none h.g fun j hj => (h3 j hj).1⟩
theorem tri_walk {S : Nat → Prop} (h : Tri S w tb L) (z : Int) {es : List E} (he : Hid (L.take z.toNat = es)) : Calls Try.prog 19 #[ptr tb, .string { data := #[] }, .int .i64 z] w fun r w' => ∃ a cap, r = .returned (.slice a es.length cap) ∧ Rw 46 w' (.slice a es.length cap) es ∧ w.grownBy w' none := by
  have := walk_e pdq256 (by omega) h (fun ks hn _ => bytes_le hn) [] (by simp) z (es := es) ⟨by rw [sub_nil]; exact he.out⟩
  rw [bt_nil] at this
  refine this.mono ?_
  rintro r w' ⟨a, cap, rfl, hr, hg⟩
  exact ⟨a, cap, rfl, rw_of hr, hg⟩
theorem tc_walkT (h : Tct W w tb ub L M ls A) (hl : L.length ≤ 120) : Calls Try.prog 19 #[ptr tb, .string { data := #[] }, .int .i64 120] w fun r w' => ∃ a cap, r = .returned (.slice a L.length cap) ∧ Rw 46 w' (.slice a L.length cap) L ∧ w.grownBy w' none := by
  obtain ⟨St, Su, h1, h2, _⟩ := h.ex
  exact tri_walk h1 120 ⟨List.take_of_length_le hl⟩
theorem tc_walkU (h : Tct W w tb ub L M ls A) (hl : M.length ≤ 1000) : Calls Try.prog 19 #[ptr ub, .string { data := #[] }, .int .i64 1000] w fun r w' => ∃ a cap, r = .returned (.slice a M.length cap) ∧ w.grownBy w' none := by
  obtain ⟨St, Su, h1, h2, _⟩ := h.ex
  refine (tri_walk h2 1000 (es := M) ⟨List.take_of_length_le hl⟩).mono ?_
  rintro r w' ⟨a, cap, rfl, _, hg⟩
  exact ⟨a, cap, rfl, hg⟩
theorem tc_nodes (h : Tct W w tb ub L M ls A) {z : Nat} (hz : Hid (nds L = z)) : Calls Try.prog 22 #[ptr tb] w fun r w' => r = .returned (.int .i64 z) ∧ w' = w := by
  obtain ⟨St, Su, h1, _⟩ := h.ex
  exact nodes_any w h1 hz
theorem tc_lenU (h : Tct W w tb ub L M ls A) : Calls Try.prog 21 #[ptr ub] w fun r w' => r = .returned (.int .i64 M.length) ∧ w' = w := by
  obtain ⟨St, Su, _, h2, _⟩ := h.ex
  exact len_any w h2
theorem tc_lenT (h : Tct W w tb ub L M ls A) : Calls Try.prog 21 #[ptr tb] w fun r w' => r = .returned (.int .i64 L.length) ∧ w' = w := by
  obtain ⟨St, Su, h1, _⟩ := h.ex
  exact len_any w h1
/-- The start: two tries apart, and a row beyond both. -/
theorem tc_start {w0 : World} {St Su : Nat → Prop} (h1 : Tri St w0 tb L) (h2 : Tri Su w0 ub M) (h3 : ∀ j, St j → W.heap.size ≤ j ∧ j < w0.heap.size) (h4 : ∀ j, Su j → W.heap.size ≤ j ∧ j < w0.heap.size) (h5 : ∀ j, St j → ¬ Su j) (hg0 : W.grownBy w0 none) (hg : w0.grownBy w none)
    {a : Option Addr} {cap : Nat} (hr : w.ownsRow w0.heap.size 33 2 (.slice a A.length cap) A.length (cellsE A)) : Tct W w tb ub L M (.slice a A.length cap) A := by
  have hs := hg.size
  refine ⟨⟨St, Su, h1.keep hg, h2.keep hg, fun j hj => ⟨(h3 j hj).1, by have := (h3 j hj).2; omega⟩, fun j hj => ⟨(h4 j hj).1, by have := (h4 j hj).2; omega⟩, h5, fun g he => ?_⟩, rw33_of hr, grown_none hg0 hg⟩
  have hge : w0.heap.size ≤ g := by
    rcases id hr.2 with ⟨e, _⟩ | ⟨g', cp, cur, e, hge, _⟩
    · rw [e] at he; cases he
    · rw [e] at he
      simp only [Value.ownBlock, Option.some.injEq] at he
      omega
  exact ⟨fun hj => by have := (h3 g hj).2; omega, fun hj => by have := (h4 g hj).2; omega⟩
end
theorem drop_len {L : List E} : Hid ((L.drop L.length).length = 0) := ⟨by simp⟩
end Go.Proofs.Ytpcdmjalfabbmaa

/- The walk of TrieCopies. -/
namespace Go.Proofs.Ytpcdmjalfabbmaa
open Go.RowKit Go.IntWalk Go.Maps Go.Shelf
set_option linter.unusedVariables false
set_option maxRecDepth 100000 in
set_option maxHeartbeats 8000000 in
theorem copies_walk (a : Option Addr) (cap : Nat) (xs : List Ac) (a2 : Option Addr) (cap2 : Nat) (ys : List Ac) (W : World) (ha : Acs W.heap.size W (.slice a xs.length cap) xs) (hb : Acs W.heap.size W (.slice a2 ys.length cap2) ys) (hyl : ys.length ≤ maxLen) :
    Calls Try.prog 8 #[.slice a xs.length cap, .slice a2 ys.length cap2] W fun e W' => e = .returned (.bool true) ∧ Below W.heap.size W W' := by
  unfold maxLen at hyl
  have hbl := built_any W ha
  have htl := bt_toList
  go_enter Try.func8, Try.ntmps8
  go_wp2_with fail
  refine hbl.mono ?_
  rintro r w1 ⟨tb, L, rfl, hB⟩
  clear hbl
  obtain ⟨St, hT, hTS⟩ := hB.ex
  have hLl := hB.len
  have hLk : Hid (∀ x ∈ L, x.k.length ≤ 40) := ⟨hB.key⟩
  have hg1 := hB.g
  have hsr : Hid (Srt L) := ⟨hB.srt⟩
  have hcp := copy_any w1 hT
  replace hT : Hid _ := ⟨hT⟩
  replace hTS : Hid _ := ⟨hTS⟩
  replace hg1 : Hid _ := ⟨hg1⟩
  replace hcp : Hid _ := ⟨hcp⟩
  clear hB
  go_wp2_with fail
  refine hcp.out.mono ?_
  rintro r w2 ⟨ub, Su, rfl, hU, hUS, hg2⟩
  have hT2 := hT.out.keep hg2
  have hwk := tri_walk hT2 120 (es := L) ⟨List.take_of_length_le hLl⟩
  replace hT2 : Hid _ := ⟨hT2⟩
  replace hU : Hid _ := ⟨hU⟩
  replace hUS : Hid _ := ⟨hUS⟩
  replace hg2 : Hid _ := ⟨hg2⟩
  replace hwk : Hid _ := ⟨hwk⟩
  clear hcp hT
  go_wp2_with fail
  refine hwk.out.mono ?_
  rintro r w3 ⟨la, lc, rfl, hrow, hg3⟩
  have htd := told_any hrow (by omega)
  replace htd : Hid _ := ⟨htd⟩
  replace hg3 : Hid _ := ⟨hg3⟩
  clear hwk hrow
  go_wp2_with fail
  refine htd.out.mono ?_
  rintro r w4 ⟨ta, tc, rfl, hr4, hg4⟩
  have hS0 : Hid (Tct W w4 tb ub L L (.slice ta L.length tc) L) := ⟨by
    have hz2 := hg2.out.size
    have hz3 := hg3.out.size
    have hz1 := hg1.out.size
    exact tc_start (hT2.out.keep hg3.out) (hU.out.keep hg3.out) (fun j hj => by have := hTS.out j hj; omega) (fun j hj => by have := hUS.out j hj; omega) (fun j hj hj2 => by have := hTS.out j hj; have := hUS.out j hj2; omega) (grown_none (grown_none hg1.out hg2.out) hg3.out) hg4 hr4⟩
  clear htd hT2 hU hUS hTS hg1 hg2 hg3 hg4 hr4
  obtain ⟨z, hz⟩ : ∃ z, Hid (nds L = z) := ⟨_, ⟨rfl⟩⟩
  have hnd := tc_nodes hS0.out hz
  replace hnd : Hid _ := ⟨hnd⟩
  go_wp2_with fail
  refine hnd.out.mono ?_
  rintro r w5 ⟨rfl, rfl⟩
  clear hnd
  go_wp2_with fail
  go_loopw [9] (fun iv wr => ∃ (i : Nat) (M : List E), iv = .int .i64 i ∧ i ≤ ys.length ∧ i ≤ 120 ∧ M.length ≤ 120 + i ∧ Hid (Tct W wr tb ub L M (.slice ta L.length tc) L))
    (fun iv _ => 120 - (intOf iv).toNat)
  case atStart => exact ⟨0, L, rfl, by omega, by omega, by omega, hS0⟩
  case round =>
    clear hS0
    obtain ⟨i, M, rfl, hi, hi2, hMl, hS⟩ := hrel
    by_cases hgo : i < ys.length ∧ i < 120
    · obtain ⟨hlt, h120⟩ := hgo
      have hd1 : decide ((i : Int) < ys.length) = true := by simp; omega
      have hd2 : decide ((i : Int) < 120) = true := by simp; omega
      obtain ⟨x, hx⟩ : ∃ x, ys[i]? = some x := ⟨ys[i], List.getElem?_eq_getElem hlt⟩
      obtain ⟨b, off, rfl, hb', hok, c0, c1, c2⟩ := (hb.below hS.out.below).at hx
      obtain ⟨B, hB⟩ : ∃ B, wr.heap.size = B := ⟨_, rfl⟩
      have d0 := cell_new wr #[.int .i64 x.kd, .string (bt x.ky), .string x.vl] 30 (i := 0) rfl
      have d1 := cell_new wr #[.int .i64 x.kd, .string (bt x.ky), .string x.vl] 30 (i := 1) rfl
      have d2 := cell_new wr #[.int .i64 x.kd, .string (bt x.ky), .string x.vl] 30 (i := 2) rfl
      have hS2 := hS.out.keep (World.grownBy_alloc wr (.cells #[.int .i64 x.kd, .string (bt x.ky), .string x.vl] 30) none)
      rw [hB] at d0 d1 d2
      have z1 := bt_size x.ky
      have hx1 := hok.2.1
      have hx2 := hok.2.2
      unfold maxLen at hx1 hx2
      have hM1 : M.length < 100000 := by omega
      replace hS2 : Hid _ := ⟨hS2⟩
      replace hok : Hid _ := ⟨hok⟩
      clear hx hS
      by_cases hk : x.ky.length ≤ 40
      · have ek : (x.ky.length : Int) ≤ 40 := by omega
        by_cases hv : x.vl.size ≤ 40
        · have ev : (x.vl.size : Int) ≤ 40 := by omega
          by_cases hk1 : x.kd = 1
          · have e1 : (x.kd == 1) = true := by simp; omega
            have hpt := tc_put hS2.out x.ky x.vl (by omega) hM1
            clear hk1 hS2
            replace hpt : Hid _ := ⟨hpt⟩
            go_wp2_with fail
            refine hpt.out.mono ?_
            rintro r w3 ⟨⟨p1, p2, rfl⟩, M', hS3, hM'⟩
            replace hS3 : Hid _ := ⟨hS3⟩
            clear hpt d0 d1 d2
            go_wp2_with fail
            exact ⟨⟨i + 1, M', by go_num, by omega, by omega, by omega, hS3⟩, by simp [intOf]; omega⟩
          · have e1 : (x.kd == 1) = false := by simp; omega
            have hpt := tc_drop hS2.out x.ky (by omega)
            clear hk1 hS2
            replace hpt : Hid _ := ⟨hpt⟩
            go_wp2_with fail
            refine hpt.out.mono ?_
            rintro r w3 ⟨⟨p1, p2, rfl⟩, M', hS3, hM'⟩
            replace hS3 : Hid _ := ⟨hS3⟩
            clear hpt d0 d1 d2
            go_wp2_with fail
            exact ⟨⟨i + 1, M', by go_num, by omega, by omega, by omega, hS3⟩, by simp [intOf]; omega⟩
        · have ev : decide ((x.vl.size : Int) ≤ 40) = false := by simp; omega
          go_wp2_with fail
          exact ⟨⟨i + 1, M, by go_num, by omega, by omega, by omega, hS2⟩, by simp [intOf]; omega⟩
      · have ek : decide ((x.ky.length : Int) ≤ 40) = false := by simp; omega
        go_wp2_with fail
        exact ⟨⟨i + 1, M, by go_num, by omega, by omega, by omega, hS2⟩, by simp [intOf]; omega⟩
    · have hd : decide ((i : Int) < ys.length) = false ∨ (decide ((i : Int) < ys.length) = true ∧ decide ((i : Int) < 120) = false) := by
        by_cases h : i < ys.length
        · exact .inr ⟨by simp; omega, by simp; omega⟩
        · exact .inl (by simp; omega)
      have hM240 : M.length ≤ 240 := by omega
      have key : Hid (Tct W wr tb ub L M (.slice ta L.length tc) L) := hS
      clear hS hMl
      rcases hd with hd | ⟨hd, hd2⟩
      all_goals
        (have hwk := tc_walkT key.out hLl
         replace hwk : Hid _ := ⟨hwk⟩
         go_wp2_with fail)
      all_goals
        (refine hwk.out.mono ?_
         rintro r w5 ⟨ra, rc, rfl, hr5, hg5⟩
         have htd := told_any hr5 (by omega)
         have h5 := key.out.keep hg5
         replace htd : Hid _ := ⟨htd⟩
         replace h5 : Hid _ := ⟨h5⟩
         clear hwk key hr5
         go_wp2_with fail
         refine htd.out.mono ?_
         rintro r w6 ⟨ta6, tc6, rfl, hr6, hg6⟩
         have h6 := h5.out.keep hg6
         have hsm := same_any (rw33_of hr6) h6.row (by omega)
         replace hsm : Hid _ := ⟨hsm⟩
         replace h6 : Hid _ := ⟨h6⟩
         clear htd h5 hr6 hg6
         go_wp2_with fail
         refine hsm.out.mono ?_
         rintro r w8 ⟨rfl, hg8⟩
         have h8 := h6.out.keep hg8
         have hnt := tc_nodes h8 hz
         replace h8 : Hid _ := ⟨h8⟩
         replace hnt : Hid _ := ⟨hnt⟩
         clear hsm h6 hg8
         go_wp2_with fail
         refine hnt.out.mono ?_
         rintro r w9 ⟨rfl, rfl⟩
         clear hnt
         go_wp2_with fail
         go_loopw [12] (fun iv wr => ∃ i : Nat, iv = .int .i64 i ∧ i ≤ L.length ∧ Hid (Tct W wr tb ub (L.drop i) M (.slice ta L.length tc) L))
           (fun iv _ => L.length - (intOf iv).toNat)
         case atStart => exact ⟨0, rfl, by omega, ⟨by simpa using h8.out⟩⟩
         case round =>
           clear h8
           obtain ⟨i, rfl, hi, hS⟩ := hrel
           by_cases hlt : i < L.length
           · have hdi : decide ((i : Int) < L.length) = true := by simp; omega
             obtain ⟨x, hx⟩ : ∃ x, L[i]? = some x := ⟨_, List.getElem?_eq_getElem hlt⟩
             have hxk := hLk.out x (List.mem_of_getElem? hx)
             obtain ⟨g, rfl, hgl, -, c0, c1, -⟩ := hS.out.row.at hx
             obtain ⟨e1, e2, e3⟩ := del_step hsr.out hx
             have hd1 := tc_dropT hS.out x.k (by omega) ⟨e1⟩
             have hn2 : (i : Int) < (L.length : Int) := by omega
             replace hd1 : Hid _ := ⟨hd1⟩
             clear hS e1 e2 e3 hx c1
             go_wp2_with fail
             refine hd1.out.mono ?_
             rintro r w5 ⟨⟨p1, p2, rfl⟩, h5⟩
             replace h5 : Hid _ := ⟨h5⟩
             clear hd1 c0
             go_wp2_with fail
             exact ⟨⟨i + 1, by go_num, by omega, h5⟩, by simp [intOf] <;> omega⟩
           · have hdi : decide ((i : Int) < L.length) = false := by simp; omega
             have hdin : decide (i < L.length) = false := by simp; omega
             have hzz : L.drop i = [] := List.drop_eq_nil_of_le (by omega)
             rw [hzz] at hS
             clear hzz
             have hlu := tc_lenU hS.out
             replace hlu : Hid _ := ⟨hlu⟩
             go_wp2_with fail
             refine hlu.out.mono ?_
             rintro r w5 ⟨rfl, rfl⟩
             clear hlu
             go_wp2_with fail
             refine (alive_any _).mono ?_
             rintro r w6 ⟨rfl, hg6⟩
             have h6 := hS.out.keep hg6
             have hlt0 := tc_lenT h6
             have hwu := tc_walkU h6 (by omega)
             rw [List.length_nil] at hlt0
             replace h6 : Hid _ := ⟨h6⟩
             replace hlt0 : Hid _ := ⟨hlt0⟩
             replace hwu : Hid _ := ⟨hwu⟩
             clear hS hg6
             go_wp2_with fail
             refine hlt0.out.mono ?_
             rintro r w7 ⟨rfl, rfl⟩
             clear hlt0
             go_wp2_with fail
             refine hwu.out.mono ?_
             rintro r w8 ⟨ua, uc, rfl, hg8⟩
             have hfin : Hid (Below W.heap.size W w8) := ⟨(h6.out.keep hg8).below⟩
             clear hwu h6 hg8
             go_wp2_with fail
             go_ret
             exact ⟨rfl, hfin.out⟩)
theorem copies_law (v : Value) (xs : List Ac) (u : Value) (ys : List Ac) (W : World) (ha : Acs W.heap.size W v xs) (hb : Acs W.heap.size W u ys) :
    Calls Try.prog 8 #[v, u] W fun e W' => e = .returned (.bool true) ∧ Below W.heap.size W W' := by
  obtain ⟨a, cap, rfl, _⟩ := ha.shape
  obtain ⟨b, cap2, rfl, hl⟩ := hb.shape
  exact copies_walk a cap xs b cap2 ys W ha hb hl
end Go.Proofs.Ytpcdmjalfabbmaa
