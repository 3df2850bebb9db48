/- The walk of TrieOrder. -/
import Derived.Test.YtpcdmjalfabbmaaLgw
import Derived.Test.YtpcdmjalfabbmaaPdw
namespace Go.Proofs.Ytpcdmjalfabbmaa
open Go.RowKit Go.IntWalk Go.Maps Go.Shelf
set_option linter.unusedVariables false
theorem bst_walk {m : Nat} {W w : World} {tb : Nat} {L : List E} {n : Nat} (h : Bst m W w tb L n) (k : K) (hk : k.length ≤ 100000) (z : Int) {es : List E} (he : Hid ((sub L k).take z.toNat = es)) :
    Calls Try.prog 19 #[ptr tb, .string (bt k), .int .i64 z] w fun r w' => ∃ a cap, r = .returned (.slice a es.length cap) ∧ Rw 46 w' (.slice a es.length cap) es ∧ Bst m W w' tb L n ∧ w.grownBy w' none := by
  obtain ⟨S, h1, h2⟩ := h.ex
  refine (walk_e pdq256 (by omega) h1 (fun ks hn _ => bytes_le hn) k hk z he).mono ?_
  rintro r w' ⟨a, cap, rfl, hr, hg⟩
  exact ⟨a, cap, rfl, rw_of hr, h.keep hg, hg⟩
theorem bst_len {m : Nat} {W w : World} {tb : Nat} {L : List E} {n : Nat} (h : Bst m W w tb L n) {z : Nat} (hz : Hid (L.length = z)) : Calls Try.prog 21 #[ptr tb] w fun r w' => r = .returned (.int .i64 z) ∧ w' = w := by
  obtain ⟨S, h1, h2⟩ := h.ex
  rw [← hz.out]
  exact len_any w h1
theorem sub_app (A B : List E) (p : K) : sub (A ++ B) p = sub A p ++ sub B p := List.filter_append ..
theorem sub_step {L : List E} {i : Nat} {x : E} (hx : L[i]? = some x) (p : K) : sub (L.take (i + 1)) p = sub (L.take i) p ++ (if p <+: x.k then [x] else []) := by
  rw [List.take_add_one, hx, sub_app]
  congr 1
  by_cases h : p <+: x.k <;> simp [sub, h]
theorem sub_there {L : List E} {i : Nat} {x : E} (hx : L[i]? = some x) {p : K} (hp : p <+: x.k) : (sub L p)[(sub (L.take i) p).length]? = some x := by
  have e : L = L.take (i + 1) ++ L.drop (i + 1) := (List.take_append_drop _ _).symm
  have h1 : sub L p = (sub (L.take i) p ++ [x]) ++ sub (L.drop (i + 1)) p := by
    conv => lhs; rw [e]
    rw [sub_app, sub_step hx, if_pos hp]
  rw [h1, List.append_assoc, List.getElem?_append_right (Nat.le_refl _)]
  simp
theorem pre_tk {k y : K} : k <+: y ↔ y.take k.length = k := by
  rw [List.prefix_iff_eq_take]
  exact eq_comm
theorem Srt.step {L : List E} (h : Srt L) {i : Nat} {x y : E} (hy : L[i]? = some y) (hx : L[i + 1]? = some x) : y.k < x.k := by
  obtain ⟨h1, rfl⟩ := List.getElem?_eq_some_iff.1 hx
  obtain ⟨h2, rfl⟩ := List.getElem?_eq_some_iff.1 hy
  exact List.pairwise_iff_getElem.1 h _ _ h2 h1 (Nat.lt_succ_self i)
set_option maxRecDepth 100000 in
set_option maxHeartbeats 8000000 in
theorem order_walk (a : Option Addr) (cap : Nat) (xs : List Ac) (k : K) (W : World) (ha : Acs W.heap.size W (.slice a xs.length cap) xs) (hkm : k.length ≤ maxLen) :
    Calls Try.prog 4 #[.slice a xs.length cap, .string (bt k)] W fun e W' => e = .returned (.bool true) ∧ Below W.heap.size W W' := by
  unfold maxLen at hkm
  have hbl := built_any W ha
  have hsz := bt_size k
  have htl := bt_toList
  go_enter Try.func4, Try.ntmps4
  go_wp2_with fail
  refine hbl.mono ?_
  rintro r w1 ⟨tb, L, rfl, hB⟩
  clear hbl
  by_cases hk : k.length ≤ 40
  · have hd : decide ((k.length : Int) > 40) = false := by simp; omega
    have hd' : (k.length : Int) ≤ 40 := by omega
    have hLl := hB.len
    have hw1 := bst_walk hB [] (by simp) 120 (es := L) ⟨by rw [sub_nil]; exact List.take_of_length_le hLl⟩
    replace hB : Hid _ := ⟨hB⟩
    replace hw1 : Hid _ := ⟨hw1⟩
    rw [bt_nil] at hw1
    go_wp2_with fail
    refine hw1.out.mono ?_
    rintro r w2 ⟨la, lc, rfl, hl2, hB2, -⟩
    clear hw1 hB
    obtain ⟨M, hM⟩ : ∃ M, Hid (sub L k = M) := ⟨_, ⟨rfl⟩⟩
    have hMl : M.length ≤ 120 := by have := sub_le L k; rw [hM.out] at this; omega
    have hw2 := bst_walk hB2 k (by omega) 120 (es := M) ⟨by rw [hM.out]; exact List.take_of_length_le hMl⟩
    have hR : Hid _ := ⟨And.intro hl2 hB2⟩
    replace hw2 : Hid _ := ⟨hw2⟩
    clear hl2 hB2
    go_wp2_with fail
    refine hw2.out.mono ?_
    rintro r w3 ⟨pa, pc, rfl, hp3, hB3, hg3⟩
    have hR3 : Hid (∃ m, Bst m W w3 tb L 120 ∧ Rw 46 w3 (.slice la L.length lc) L ∧ Rw 46 w3 (.slice pa M.length pc) M) := ⟨_, hB3, World.ownsRow.kept hR.out.1 hg3 (Classical.em _), hp3⟩
    have hsrt : Hid (Srt L) := ⟨hB3.srt⟩
    have hkey : Hid (∀ x ∈ L, x.k.length ≤ 40) := ⟨hB3.key⟩
    clear hR hp3 hB3 hg3 hw2
    go_wp2_with fail
    go_loopw [8, 9] (fun jv iv wr => ∃ i j : Nat, iv = .int .i64 i ∧ jv = .int .i64 j ∧ i ≤ L.length ∧ Hid (j = (sub (L.take i) k).length) ∧ Hid (∃ m, Bst m W wr tb L 120 ∧ Rw 46 wr (.slice la L.length lc) L ∧ Rw 46 wr (.slice pa M.length pc) M))
      (fun _ iv _ => L.length - (intOf iv).toNat)
    case atStart => exact ⟨0, 0, by first | rfl | go_num, by first | rfl | go_num, by omega, ⟨by simp [sub]⟩, hR3⟩
    case round =>
      clear hR3
      obtain ⟨i, j, rfl, rfl, hi, hj, hR⟩ := hrel
      obtain ⟨m, hB, hl, hp⟩ := hR.out
      clear hR
      by_cases hlt : i < L.length
      · have hd : decide ((i : Int) < L.length) = true := by simp; omega
        obtain ⟨x, hx⟩ : ∃ x, L[i]? = some x := ⟨_, List.getElem?_eq_getElem hlt⟩
        have hxm := List.mem_of_getElem? hx
        have hxk := hkey.out x hxm
        have hget := bst_get hB x.k (by omega) ⟨hsrt.out.gt hxm⟩
        obtain ⟨g, rfl, hgl, -, c0, c1, -⟩ := hl.at hx
        replace hget : Hid _ := ⟨hget⟩
        have hR : Hid (Rw 46 wr (.slice (some ⟨g, 0, none⟩) L.length lc) L ∧ Rw 46 wr (.slice pa M.length pc) M) := ⟨hl, hp⟩
        replace hB : Hid _ := ⟨hB⟩
        clear hl hp
        go_wp2_with fail
        refine hget.out.mono ?_
        rintro r w5 ⟨rfl, hB5, hg5⟩
        have c0 := grown_cell hg5 c0
        have c1 := grown_cell hg5 c1
        have hR5 : Hid (Rw 46 w5 (.slice (some ⟨g, 0, none⟩) L.length lc) L ∧ Rw 46 w5 (.slice pa M.length pc) M) := ⟨World.ownsRow.kept hR.out.1 hg5 (Classical.em _), World.ownsRow.kept hR.out.2 hg5 (Classical.em _)⟩
        replace hB5 : Hid _ := ⟨hB5⟩
        clear hget hB hR hg5
        obtain ⟨q, hq⟩ : ∃ q, x.k = q := ⟨_, rfl⟩
        obtain ⟨v, hv⟩ : ∃ v, x.v = v := ⟨_, rfl⟩
        rw [hq] at c0 hxk
        rw [hv] at c1
        rw [show vOf (some x.v) = v from hv]
        have hszq := bt_size q
        have hx' : Hid (L[i]? = some x ∧ x.k = q ∧ x.v = v) := ⟨hx, hq, hv⟩
        clear hx hxm hq hv
        haveI := lat_nonempty w5
        have kk0 := lat_cell c0
        have kk1 := lat_cell c1
        have hgt : ∃ w6, w5.grownBy w6 none ∧ w6 = w5 := ⟨w5, grown_refl _, rfl⟩
        have key : ∀ w6, w5.grownBy w6 none → (∃ (m : Nat), Bst m W w6 tb L 120) ∧ Rw 46 w6 (.slice (some ⟨g, 0, none⟩) L.length lc) L ∧ Rw 46 w6 (.slice pa M.length pc) M ∧ w6.cell? ⟨g, i * 2, none⟩ = some (.string (bt q)) ∧ w6.cell? ⟨g, i * 2 + 1, none⟩ = some (.string v) := fun w6 h6 =>
          ⟨⟨_, hB5.out.keep h6⟩, World.ownsRow.kept hR5.out.1 h6 (Classical.em _), World.ownsRow.kept hR5.out.2 h6 (Classical.em _), grown_cell h6 c0, grown_cell h6 c1⟩
        replace key : Hid _ := ⟨key⟩
        clear hgt
        by_cases hi0 : i = 0
        · subst hi0
          go_wp2_with fail
          refine wp_region_lat (by kernel_rfl) (by kernel_rfl) ?_
          repeat (go_big_quiet_step (fail))
          refine wpQuiet_nil ?_
          intro _ hw'
          obtain ⟨z, hw''⟩ := hw'
          subst hw''
          obtain ⟨hB6, hl6, hp6, e0, e1⟩ := key.out z.W z.h
          generalize z.W = w6 at *
          clear kk0 kk1 c0 c1 z key hB5 hR5
          by_cases hpre : k <+: q
          · have hle : k.length ≤ q.length := hpre.length_le
            have hleI : (k.length : Int) ≤ q.length := by omega
            have hcut : (bt q).extract 0 k.length = bt k := by rw [bt_take, pre_tk.1 hpre]
            have hMj : M[j]? = some x := by
              have := sub_there hx'.out.1 (p := k) (by rw [hx'.out.2.1]; exact hpre)
              rw [← hj.out, hM.out] at this
              exact this
            have hjl : j < M.length := (List.getElem?_eq_some_iff.1 hMj).1
            have hjd : decide ((j : Int) ≥ M.length) = false := by simp; omega
            have hjd2 : decide (M.length ≤ j) = false := by simp; omega
            have hjd3 : decide ((M.length : Int) ≤ j) = false := by simp; omega
            obtain ⟨g2, rfl, hg2l, -, d0, d1, -⟩ := hp6.at hMj
            rw [hx'.out.2.1] at d0
            rw [hx'.out.2.2] at d1
            have hj2 : Hid (j + 1 = (sub (L.take (0 + 1)) k).length) := ⟨by
              rw [sub_step hx'.out.1, if_pos (by rw [hx'.out.2.1]; exact hpre), List.length_append, ← hj.out]; rfl⟩
            have hR6 : Hid (∃ m, Bst m W w6 tb L 120 ∧ Rw 46 w6 (.slice (some ⟨g, 0, none⟩) L.length lc) L ∧ Rw 46 w6 (.slice (some ⟨g2, 0, none⟩) M.length pc) M) := ⟨by obtain ⟨m, h⟩ := hB6; exact ⟨m, h, hl6, hp6⟩⟩
            replace hjl : (j : Int) < M.length := by omega
            have hju : Hid (j + 1 ≤ 120) := ⟨by omega⟩
            replace hx' : Hid _ := ⟨hx'.out⟩
            clear hpre hMj hB6 hl6 hp6 hle
            have hss : ∀ y : K, (y == y) = true := fun y => by simp
            go_wp2_with fail
            haveI := lat_nonempty w6
            have kk0 := lat_cell e0
            have kk1 := lat_cell e1
            have kk2 := lat_cell d0
            have kk3 := lat_cell d1
            refine wp_region_lat (by kernel_rfl) (by kernel_rfl) ?_
            repeat (go_big_quiet_step (fail))
            refine wpQuiet_nil ?_
            intro _ hw'
            obtain ⟨z, hw''⟩ := hw'
            subst hw''
            have hR7 : Hid (∃ m, Bst m W z.W tb L 120 ∧ Rw 46 z.W (.slice (some ⟨g, 0, none⟩) L.length lc) L ∧ Rw 46 z.W (.slice (some ⟨g2, 0, none⟩) M.length pc) M) := ⟨by
              obtain ⟨m, h1, h2, h3⟩ := hR6.out
              exact ⟨m, h1.keep z.h, World.ownsRow.kept h2 z.h (Classical.em _), World.ownsRow.kept h3 z.h (Classical.em _)⟩⟩
            clear kk0 kk1 kk2 kk3 hR6
            go_wp2_with fail
            exact ⟨⟨1, j + 1, by go_num, by go_num, by omega, hj2, hR7⟩, by simp [intOf] <;> omega⟩
          · have hj2 : Hid (j = (sub (L.take (0 + 1)) k).length) := ⟨by
              rw [sub_step hx'.out.1, if_neg (by rw [hx'.out.2.1]; exact hpre), List.append_nil, ← hj.out]⟩
            have hR6 : Hid (∃ m, Bst m W w6 tb L 120 ∧ Rw 46 w6 (.slice (some ⟨g, 0, none⟩) L.length lc) L ∧ Rw 46 w6 (.slice pa M.length pc) M) := ⟨by obtain ⟨m, h⟩ := hB6; exact ⟨m, h, hl6, hp6⟩⟩
            clear hB6 hl6 hp6
            by_cases hle : k.length ≤ q.length
            · have hleI : (k.length : Int) ≤ q.length := by omega
              obtain ⟨c, hc⟩ : ∃ c, q.take k.length = c := ⟨_, rfl⟩
              have hcut : (bt q).extract 0 k.length = bt c := by rw [bt_take, hc]
              have hne : (c == k) = false := by rw [← hc]; simpa using fun h => hpre (pre_tk.2 h)
              clear hpre hle hc
              go_wp2_with fail
              exact ⟨⟨1, j, by go_num, rfl, by omega, hj2, hR6⟩, by simp [intOf] <;> omega⟩
            · have hleI : (q.length : Int) < k.length := by omega
              have hled : decide ((k.length : Int) ≤ q.length) = false := by simp; omega
              have hled2 : decide (k.length ≤ q.length) = false := by simp; omega
              clear hpre hle
              go_wp2_with fail
              exact ⟨⟨1, j, by go_num, rfl, by omega, hj2, hR6⟩, by simp [intOf] <;> omega⟩
        · obtain ⟨i, rfl⟩ : ∃ i', i = i' + 1 := ⟨i - 1, by omega⟩
          obtain ⟨y, hy⟩ : ∃ y, L[i]? = some y := ⟨_, List.getElem?_eq_getElem (by omega)⟩
          have hyx : y.k < q := by rw [← hx'.out.2.1]; exact hsrt.out.step hy hx'.out.1
          obtain ⟨g', e', -, -, y0, -, -⟩ := hR5.out.1.at hy
          cases e'
          obtain ⟨u, hu⟩ : ∃ u, y.k = u := ⟨_, rfl⟩
          rw [hu] at hyx y0
          have kk2 := lat_cell y0
          have hbl : Op.bytesLess u q = true := by rw [bytesLess_eq]; simpa using hyx
          have hgi : decide (((i : Int) + 1) > 0) = true := decide_eq_true (by omega)
          have hgi2 : decide (0 < i + 1) = true := decide_eq_true (by omega)
          clear hy hu hi0 y0 hyx
          go_wp2_with fail
          refine wp_region_lat (by kernel_rfl) (by kernel_rfl) ?_
          repeat (go_big_quiet_step (fail))
          refine wpQuiet_nil ?_
          intro _ hw'
          obtain ⟨z, hw''⟩ := hw'
          subst hw''
          obtain ⟨hB6, hl6, hp6, e0, e1⟩ := key.out z.W z.h
          generalize z.W = w6 at *
          clear kk0 kk1 kk2 c0 c1 z key hB5 hR5
          by_cases hpre : k <+: q
          · have hle : k.length ≤ q.length := hpre.length_le
            have hleI : (k.length : Int) ≤ q.length := by omega
            have hcut : (bt q).extract 0 k.length = bt k := by rw [bt_take, pre_tk.1 hpre]
            have hMj : M[j]? = some x := by
              have := sub_there hx'.out.1 (p := k) (by rw [hx'.out.2.1]; exact hpre)
              rw [← hj.out, hM.out] at this
              exact this
            have hjl : j < M.length := (List.getElem?_eq_some_iff.1 hMj).1
            have hjd : decide ((j : Int) ≥ M.length) = false := by simp; omega
            have hjd2 : decide (M.length ≤ j) = false := by simp; omega
            have hjd3 : decide ((M.length : Int) ≤ j) = false := by simp; omega
            obtain ⟨g2, rfl, hg2l, -, d0, d1, -⟩ := hp6.at hMj
            rw [hx'.out.2.1] at d0
            rw [hx'.out.2.2] at d1
            have hj2 : Hid (j + 1 = (sub (L.take ((i + 1) + 1)) k).length) := ⟨by
              rw [sub_step hx'.out.1, if_pos (by rw [hx'.out.2.1]; exact hpre), List.length_append, ← hj.out]; rfl⟩
            have hR6 : Hid (∃ m, Bst m W w6 tb L 120 ∧ Rw 46 w6 (.slice (some ⟨g, 0, none⟩) L.length lc) L ∧ Rw 46 w6 (.slice (some ⟨g2, 0, none⟩) M.length pc) M) := ⟨by obtain ⟨m, h⟩ := hB6; exact ⟨m, h, hl6, hp6⟩⟩
            replace hjl : (j : Int) < M.length := by omega
            have hju : Hid (j + 1 ≤ 120) := ⟨by omega⟩
            replace hx' : Hid _ := ⟨hx'.out⟩
            clear hpre hMj hB6 hl6 hp6 hle
            have hss : ∀ y : K, (y == y) = true := fun y => by simp
            go_wp2_with fail
            haveI := lat_nonempty w6
            have kk0 := lat_cell e0
            have kk1 := lat_cell e1
            have kk2 := lat_cell d0
            have kk3 := lat_cell d1
            refine wp_region_lat (by kernel_rfl) (by kernel_rfl) ?_
            repeat (go_big_quiet_step (fail))
            refine wpQuiet_nil ?_
            intro _ hw'
            obtain ⟨z, hw''⟩ := hw'
            subst hw''
            have hR7 : Hid (∃ m, Bst m W z.W tb L 120 ∧ Rw 46 z.W (.slice (some ⟨g, 0, none⟩) L.length lc) L ∧ Rw 46 z.W (.slice (some ⟨g2, 0, none⟩) M.length pc) M) := ⟨by
              obtain ⟨m, h1, h2, h3⟩ := hR6.out
              exact ⟨m, h1.keep z.h, World.ownsRow.kept h2 z.h (Classical.em _), World.ownsRow.kept h3 z.h (Classical.em _)⟩⟩
            clear kk0 kk1 kk2 kk3 hR6
            go_wp2_with fail
            exact ⟨⟨(i + 1) + 1, j + 1, by go_num, by go_num, by omega, hj2, hR7⟩, by simp [intOf] <;> omega⟩
          · have hj2 : Hid (j = (sub (L.take ((i + 1) + 1)) k).length) := ⟨by
              rw [sub_step hx'.out.1, if_neg (by rw [hx'.out.2.1]; exact hpre), List.append_nil, ← hj.out]⟩
            have hR6 : Hid (∃ m, Bst m W w6 tb L 120 ∧ Rw 46 w6 (.slice (some ⟨g, 0, none⟩) L.length lc) L ∧ Rw 46 w6 (.slice pa M.length pc) M) := ⟨by obtain ⟨m, h⟩ := hB6; exact ⟨m, h, hl6, hp6⟩⟩
            clear hB6 hl6 hp6
            by_cases hle : k.length ≤ q.length
            · have hleI : (k.length : Int) ≤ q.length := by omega
              obtain ⟨c, hc⟩ : ∃ c, q.take k.length = c := ⟨_, rfl⟩
              have hcut : (bt q).extract 0 k.length = bt c := by rw [bt_take, hc]
              have hne : (c == k) = false := by rw [← hc]; simpa using fun h => hpre (pre_tk.2 h)
              clear hpre hle hc
              go_wp2_with fail
              exact ⟨⟨(i + 1) + 1, j, by go_num, rfl, by omega, hj2, hR6⟩, by simp [intOf] <;> omega⟩
            · have hleI : (q.length : Int) < k.length := by omega
              have hled : decide ((k.length : Int) ≤ q.length) = false := by simp; omega
              have hled2 : decide (k.length ≤ q.length) = false := by simp; omega
              clear hpre hle
              go_wp2_with fail
              exact ⟨⟨(i + 1) + 1, j, by go_num, rfl, by omega, hj2, hR6⟩, by simp [intOf] <;> omega⟩
      · have hie : i = L.length := by omega
        subst hie
        have hje : Hid (j = M.length) := ⟨by rw [hj.out, List.take_of_length_le (Nat.le_refl _), hM.out]⟩
        have hd : decide ((L.length : Int) < L.length) = false := by simp
        have hjd : ((j : Int) == M.length) = true := by rw [hje.out]; simp
        have hjd2 : (j : Int) = M.length := by rw [hje.out]
        clear hl hp
        go_wp2_with fail
        refine (alive_any wr).mono ?_
        rintro r w5 ⟨rfl, hg5⟩
        have hB5 := hB.keep hg5
        have hln := bst_len hB5 (z := L.length) ⟨rfl⟩
        have hfin := hB5.below
        clear hB hB5
        go_wp2_with fail
        refine hln.mono ?_
        rintro r w6 ⟨rfl, rfl⟩
        go_wp2
        go_ret
        exact ⟨by simp, hfin⟩
  · have hd : (40 : Int) < k.length := by omega
    have hfin : Hid (Below W.heap.size W w1) := ⟨hB.below⟩
    clear hB
    go_wp2
    go_ret
    exact ⟨rfl, hfin.out⟩
theorem order_law (v : Value) (xs : List Ac) (s : ByteArray) (W : World) (ha : Acs W.heap.size W v xs) (hs : s.size ≤ maxLen) :
    Calls Try.prog 4 #[v, .string s] W fun e W' => e = .returned (.bool true) ∧ Below W.heap.size W W' := by
  obtain ⟨a, cap, rfl, _⟩ := ha.shape
  have := order_walk a cap xs s.data.toList W ha (by have := bt_size s.data.toList; rw [bt_of] at this; omega)
  rwa [bt_of] at this
end Go.Proofs.Ytpcdmjalfabbmaa

/- told; Same; lists of texts. -/
namespace Go.Proofs.Ytpcdmjalfabbmaa
open Go.RowKit Go.IntWalk Go.Maps Go.Shelf
set_option linter.unusedVariables false
set_option maxRecDepth 100000 in
set_option maxHeartbeats 4000000 in
/-- belfryref08.Same, of a list and itself. -/
theorem same_any {w : World} {a a2 : Option Addr} {cap cap2 : Nat} {L : List E} (h1 : Rw 33 w (.slice a L.length cap) L) (h2 : Rw 33 w (.slice a2 L.length cap2) L) (hl : L.length ≤ 100000) :
    Calls Try.prog 17 #[.slice a L.length cap, .slice a2 L.length cap2] w fun r w' => r = .returned (.bool true) ∧ w.grownBy w' none := by
  go_enter Try.func17, Try.ntmps17
  go_wp2_with fail
  go_loopw [5] (fun i wr => ∃ j : Nat, j ≤ L.length ∧ i = .int .i64 j ∧ Hid (w.grownBy wr none))
    (fun i _ => L.length - (intOf i).toNat)
  case atStart => exact ⟨0, by omega, rfl, ⟨grown_refl w⟩⟩
  case round =>
    obtain ⟨j, hj, rfl, hR⟩ := hrel
    by_cases hlt : j < L.length
    · have hd : decide ((j : Int) < L.length) = true := by simp; omega
      obtain ⟨x, hx⟩ : ∃ x, L[j]? = some x := ⟨_, List.getElem?_eq_getElem hlt⟩
      obtain ⟨g, rfl, _, _, k0, k1, _⟩ := h1.at hx
      obtain ⟨b, rfl, hbl, _, m0, m1, _⟩ := h2.at hx
      have hq1 : ((bt x.k).toList != (bt x.k).toList) = false := by simp
      have hq2 : (x.v.toList != x.v.toList) = false := by simp
      haveI := lat_nonempty wr
      have kc0 := lat_cell (grown_cell hR.out k0)
      have kc1 := lat_cell (grown_cell hR.out k1)
      have kc2 := lat_cell (grown_cell hR.out m0)
      have kc3 := lat_cell (grown_cell hR.out m1)
      replace hx : Hid _ := ⟨hx⟩
      clear k0 k1 m0 m1
      go_wp2_with fail
      refine wp_region_lat (by kernel_rfl) (by kernel_rfl) ?_
      repeat (go_big_quiet_step (fail))
      refine wpQuiet_nil ?_
      intro _ hw'
      obtain ⟨p, hw''⟩ := hw'
      subst hw''
      have hR2 : Hid (w.grownBy p.W none) := ⟨grown_none hR.out p.h⟩
      clear kc0 kc1 kc2 kc3
      go_wp2_with fail
      go_roundw
      case rel => exact ⟨j + 1, by omega, by go_num, hR2⟩
      case measure => simp [intOf]; omega
    · have hd : decide ((j : Int) < L.length) = false := by simp; omega
      go_wp2_with fail
      go_ret
      exact ⟨rfl, hR.out⟩
theorem Try.info33 : (Try.prog.info? 33).map (fun i => (i.zero, i.size, i.bytes)) = some (some (.agg #[.string ByteArray.empty, .string ByteArray.empty]), 2, 32) := by kernel_rfl
theorem step_app33 {ops : Array Oper} {o : Oper} {a : Act} {w : World} {K : Act → World → Prop} {Q : Exit → Act → World → Prop} {E' : Prop} (hgd : o.guard = none) (sl x : Operand) (hop : o.op = Op.call { callee := Callee.builtin Builtin.append, args := #[sl, x], argTypes := #[28, 28] })
    {v : Value} {es : List E} {e : E} {B base : Nat} (hs : a.eval sl = v) (hx : a.eval x = .slice (some ⟨B, 0, none⟩) 1 1) (hown : w.ownsRow base 33 2 v es.length (cellsE es)) (h0 : w.cell? ⟨B, 0, none⟩ = some (.string (bt e.k))) (h1 : w.cell? ⟨B, 1, none⟩ = some (.string e.v)) (hl : es.length ≤ 100000) (hb : base ≤ w.heap.size)
    (hK : ∀ v' w', w'.ownsRow base 33 2 v' (es ++ [e]).length (cellsE (es ++ [e])) → w.grownBy w' v.ownBlock → K (a.put o.dst v') w') :
    if Region.wanted o (yielded ops a.tmps) = true then Oper.wp Try.prog o a w K Q else E' := by
  obtain ⟨i0, hi, hz0, hz1, hz2⟩ := info_parts Try.info33
  obtain ⟨v', w', hrun, hr, hg, _⟩ := run_append_own (P := Try.prog) w base 28 o.type 33 i0 (.agg #[.string ByteArray.empty, .string ByteArray.empty]) 2 32 Try.underlying28 hi hz0 hz1 hz2 rfl (by decide) v es.length _ hown ⟨B, 0, none⟩ 1 1 e.cells rfl
    (fun j u hj => by
      rw [addr_add, Nat.zero_add]
      match j, hj with
      | 0, hj => simp [E.cells] at hj; subst hj; exact h0
      | 1, hj => simp [E.cells] at hj; subst hj; exact h1
      | j + 2, hj => simp [E.cells] at hj) (fun u hu => by
        simp only [E.cells, List.mem_cons, List.not_mem_nil, or_false] at hu
        rcases hu with rfl | rfl <;> rfl) (by unfold maxLen; omega) (by omega) hb
  have e1 : cellsE es ++ e.cells = cellsE (es ++ [e]) := by rw [cellsE_app]; simp [cellsE]
  rw [e1] at hr
  have hw : Region.wanted o (yielded ops a.tmps) = true := by simp [Region.wanted, hgd]
  rw [if_pos hw]
  unfold Oper.wp
  simp [execOp, hop, resolve, invoke, builtin, hs, hx, hrun, Result.andThen]
  exact hK v' w' (by rw [List.length_append]; exact hr) hg
set_option maxRecDepth 100000 in
set_option maxHeartbeats 4000000 in
/-- belfrylaw08.told. -/
theorem told_any {w : World} {a : Option Addr} {cap : Nat} {L : List E} (h : Rw 46 w (.slice a L.length cap) L) (hl : L.length ≤ 10000) :
    Calls Try.prog 18 #[.slice a L.length cap] w fun r w' => ∃ a' cap', r = .returned (.slice a' L.length cap') ∧ w'.ownsRow w.heap.size 33 2 (.slice a' L.length cap') L.length (cellsE L) ∧ w.grownBy w' none := by
  go_enter Try.func18, Try.ntmps18
  go_wp2_with fail
  go_loopw [3, 4] (fun v iv wr => ∃ i : Nat, i ≤ L.length ∧ iv = .int .i64 i ∧ Hid (wr.ownsRow w.heap.size 33 2 v (L.take i).length (cellsE (L.take i)) ∧ w.grownBy wr none))
    (fun _ iv _ => L.length - (intOf iv).toNat)
  case atStart => exact ⟨0, by omega, rfl, ⟨by simpa [cellsE] using World.ownsRow_nil w w.heap.size 33 2, grown_refl w⟩⟩
  case round =>
    obtain ⟨i, hi, rfl, hR⟩ := hrel
    by_cases hlt : i < L.length
    · have hd : decide ((i : Int) < L.length) = true := by simp; omega
      obtain ⟨x, hx⟩ : ∃ x, L[i]? = some x := ⟨_, List.getElem?_eq_getElem hlt⟩
      obtain ⟨g, rfl, hgl, _, k0, k1, _⟩ := h.at hx
      have k0 := grown_cell hR.out.2 k0
      have k1 := grown_cell hR.out.2 k1
      have hls : (L.take i).length = i := by rw [List.length_take]; omega
      have hown : ∀ k, u3.ownBlock = some k → w.heap.size ≤ k ∧ k < wr.heap.size := fun k hk => by
        rcases id hR.out.1.2 with ⟨e, _⟩ | ⟨g', cp, cur, e, hge, hg6, _⟩
        · rw [e] at hk; cases hk
        · rw [e] at hk
          simp only [Value.ownBlock, Option.some.injEq] at hk
          subst hk
          exact ⟨hge, (Array.getElem?_eq_some_iff.1 hg6).1⟩
      have hgr := hR.out.2
      have hws := hgr.size
      have hrow := hR.out.1
      replace hls : Hid _ := ⟨hls⟩
      replace hown : Hid _ := ⟨hown⟩
      replace hx : Hid _ := ⟨hx⟩
      clear hR
      go_wp2_with fail
      go_region_held3 (fun w' => w'.cell? ⟨g, i * 2, none⟩ = some (.string (bt x.k)) ∧ w'.cell? ⟨g, i * 2 + 1, none⟩ = some (.string x.v))
        (first
          | go_keep
          | (go_split_ands
             refine ⟨?_, ?_⟩
             · (exact hg4.cell (by assumption) (fun e => by have := (hown.out g e.symm).1; omega))
             · (exact hg4.cell (by assumption) (fun e => by have := (hown.out g e.symm).1; omega))))
        ((refine step_app33 (by rfl) _ _ (by rfl) (v := u3) (es := L.take i) (e := x) (B := wr.heap.size) (base := w.heap.size) (by rfl) (by rfl) ((hrow.alloc _).drew) (by simp) (by simp) (by have := hls.out; omega) (by simp; omega) ?_; intro v4 w4 hr4 hg4))
      have hg5 : w.grownBy w4 none := (grown_none (grown_none hgr (World.grownBy_alloc wr (.cells #[.string (bt x.k), .string x.v] 33) none)) (grown_drew _)).andThen hg4 fun j hj => .inl (hown.out j hj).1
      have hR2 : Hid (w4.ownsRow w.heap.size 33 2 v4 (L.take (i + 1)).length (cellsE (L.take (i + 1))) ∧ w.grownBy w4 none) := ⟨by
        rw [List.take_add_one, hx.out]
        exact ⟨hr4, hg5⟩⟩
      clear hr4 hg4 hrow hgr hg5
      go_wp2_with fail
      go_roundw
      case rel => exact ⟨i + 1, by omega, by go_num, hR2⟩
      case measure => simp [intOf]; omega
    · have hd : decide ((i : Int) < L.length) = false := by simp; omega
      obtain ⟨hr, hg⟩ := hR.out
      rw [List.take_of_length_le (by omega)] at hr
      obtain ⟨a', c', hv⟩ : ∃ a' c', u3 = .slice a' L.length c' := by
        rcases id hr.2 with ⟨rfl, h0⟩ | ⟨g, cp, cur, e, _⟩
        · exact ⟨none, 0, by rw [h0]⟩
        · exact ⟨_, _, e⟩
      subst hv
      replace hr : Hid _ := ⟨hr⟩
      go_wp2_with fail
      go_ret
      exact ⟨_, _, rfl, hr.out, hg⟩
end Go.Proofs.Ytpcdmjalfabbmaa
