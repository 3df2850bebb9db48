/- The walk of TrieAny. -/
import Derived.Test.YtpcdmjalfabbmaaTwo
namespace Go.Proofs.Ytpcdmjalfabbmaa
open Go.RowKit Go.IntWalk Go.Maps Go.Shelf
set_option linter.unusedVariables false
theorem rw_of33 {w : World} {base : Nat} {v : Value} {es : List E} (h : w.ownsRow base 33 2 v es.length (cellsE es)) : Rw 33 w v es := ⟨h.1, h.2.imp id fun ⟨g, cap, cur, e, hb, rest⟩ => ⟨g, cap, cur, e, Nat.zero_le _, rest⟩⟩
set_option maxRecDepth 100000 in
set_option maxHeartbeats 8000000 in
theorem any_walk (a : Option Addr) (cap : Nat) (xs : List Ac) (b : Option Addr) (cap2 : Nat) (ks : List K) (W : World) (ha : Acs W.heap.size W (.slice a xs.length cap) xs) (hb : Strs W.heap.size W (.slice b ks.length cap2) ks) (hkl : ks.length ≤ maxLen) :
    Calls Try.prog 5 #[.slice a xs.length cap, .slice b ks.length cap2] W fun e W' => e = .returned (.bool true) ∧ Below W.heap.size W W' := by
  unfold maxLen at hkl
  have hbl := built_any W ha
  have htl := bt_toList
  go_enter Try.func5, Try.ntmps5
  go_wp2_with fail
  refine hbl.mono ?_
  rintro r w1 ⟨tb, L, rfl, hB⟩
  clear hbl
  have hnw := new_any w1
  replace hB : Hid _ := ⟨hB⟩
  go_wp2_with fail
  refine hnw.mono ?_
  rintro r w2 ⟨ub, rfl, hU, hg2⟩
  have hB2 := hB.out.keep hg2
  clear hnw hB
  by_cases hk : ks.length ≤ 120
  · have hd : decide ((ks.length : Int) > 120) = false := by simp; omega
    have hd' : (ks.length : Int) ≤ 120 := by omega
    have hLl := hB2.len
    have hLk : Hid (∀ x ∈ L, x.k.length ≤ 40) := ⟨hB2.key⟩
    obtain ⟨St, hT, hTS⟩ := hB2.ex
    have hw1 := walk_e pdq256 (by omega) hT (fun ks hn _ => bytes_le hn) [] (by simp) 120 (es := L) ⟨by rw [sub_nil]; exact List.take_of_length_le hLl⟩
    rw [bt_nil] at hw1
    have hWg : W.grownBy w2 none := hB2.g
    have hm1 := hB2.mm
    replace hU : Hid _ := ⟨hU⟩
    replace hT : Hid _ := ⟨hT⟩
    replace hTS : Hid _ := ⟨hTS⟩
    replace hw1 : Hid _ := ⟨hw1⟩
    replace hWg : Hid _ := ⟨hWg⟩
    replace hg2 : Hid _ := ⟨hg2⟩
    clear hB2
    go_wp2_with fail
    refine hw1.out.mono ?_
    rintro r w3 ⟨la, lc, rfl, hrow, hg3⟩
    have hTw : Hid (Twt W w3 tb ub L [] (.slice la L.length lc)) := ⟨by
      have hz := hg2.out.size
      have hz3 := hg3.size
      refine ⟨⟨St, fun j => w1.heap.size ≤ j ∧ j < w2.heap.size, hT.out.keep hg3, hU.out.keep hg3, fun j hj => ?_, fun j hj => ?_, fun j hj hj2 => ?_, fun g hg hj2 => ?_⟩, rw_of hrow, grown_none hWg.out hg3⟩
      · have := hTS.out j hj; omega
      · have := hWg.out.size
        have := (hTS.out tb (by obtain ⟨P, nb, mb, lab, _, _, h3⟩ := hT.out.ex; exact h3 tb (.inl rfl)))
        omega
      · have := hTS.out j hj; omega
      · rcases id hrow.2 with ⟨e, _⟩ | ⟨g', cp, cur, e, hge, _⟩
        · rw [e] at hg; cases hg
        · rw [e] at hg
          simp only [Value.ownBlock, Option.some.injEq] at hg
          omega⟩
    clear hw1 hU hT hTS hWg hg2 hrow hg3 hm1
    go_wp2_with fail
    go_loopw [8] (fun iv wr => ∃ (i : Nat) (M : List E), iv = .int .i64 i ∧ i ≤ ks.length ∧ M.length ≤ i ∧ Hid (Twt W wr tb ub L M (.slice la L.length lc) ∧ ∀ x ∈ M, x.k ∈ ks))
      (fun iv _ => ks.length - (intOf iv).toNat)
    case atStart => exact ⟨0, [], rfl, by omega, by simp, ⟨hTw.out, by simp⟩⟩
    case round =>
      clear hTw
      obtain ⟨i, M, rfl, hi, hMl, hS⟩ := hrel
      by_cases hlt : i < ks.length
      · have hdi : decide ((i : Int) < ks.length) = true := by simp; omega
        obtain ⟨k, hki⟩ : ∃ k, ks[i]? = some k := ⟨_, List.getElem?_eq_getElem hlt⟩
        obtain ⟨bb, off, rfl, hbb, hkm, c0⟩ := (hb.below hS.out.1.below).at hki
        have hkmem := List.mem_of_getElem? hki
        have hsz := bt_size k
        unfold maxLen at hkm
        replace hki : Hid _ := ⟨hki⟩
        replace hkmem : Hid _ := ⟨hkmem⟩
        by_cases h40 : k.length ≤ 40
        · have hd4 : (k.length : Int) ≤ 40 := by omega
          have hput := two_put hS.out.1 k { data := #[] } (by omega) (by omega)
          replace hput : Hid _ := ⟨hput⟩
          have hM2 := putE_le hS.out.1.srtM ⟨k, { data := #[] }⟩
          replace hM2 : Hid _ := ⟨hM2⟩
          go_wp2_with fail
          refine hput.out.mono ?_
          rintro r w5 ⟨⟨p1, p2, rfl⟩, hT5⟩
          have hS5 : Hid (Twt W w5 tb ub L (putE ⟨k, { data := #[] }⟩ M) (.slice la L.length lc) ∧ ∀ x ∈ putE ⟨k, { data := #[] }⟩ M, x.k ∈ ks) := ⟨hT5, fun x hx => by
            rcases mem_putE.1 hx with rfl | ⟨hx, _⟩
            · exact hkmem.out
            · exact hS.out.2 x hx⟩
          clear hput hT5 hS
          go_wp2_with fail
          exact ⟨⟨i + 1, _, by go_num, by omega, by have := hM2.out; omega, hS5⟩, by simp [intOf] <;> omega⟩
        · have hd4 : decide ((k.length : Int) ≤ 40) = false := by simp; omega
          have hd5 : decide (k.length ≤ 40) = false := by simp; omega
          go_wp2_with fail
          exact ⟨⟨i + 1, M, by go_num, by omega, by omega, hS⟩, by simp [intOf] <;> omega⟩
      · have hdi : decide ((i : Int) < ks.length) = false := by simp; omega
        have hwl : wrap64 ((L.length : Int) - 1) = (L.length : Int) - 1 := by unfold wrap64; omega
        obtain ⟨M0, hM0, hS0⟩ : ∃ M0 : List E, M0.length ≤ 120 ∧ Hid (Twt W wr tb ub L M0 (.slice la L.length lc) ∧ ∀ x ∈ M0, x.k ∈ ks) := ⟨M, by omega, hS⟩
        have hdin : decide (i < ks.length) = false := by simp; omega
        clear hS hMl
        go_wp2_with fail
        clear hi hlt hdi hdin
        have hLi : (L.length : Int) ≤ 120 := by omega
        go_loopw [9] (fun iv wr => ∃ (j : Nat) (M : List E), ((j = 0 ∧ iv = .int .i64 (-1)) ∨ ∃ n : Nat, j = n + 1 ∧ iv = .int .i64 n) ∧ j ≤ L.length ∧ M.length ≤ 120 + (L.length - j) ∧ Hid (Twt W wr tb ub L M (.slice la L.length lc) ∧ (∀ x ∈ L.drop j, x ∈ M) ∧ ∀ x ∈ M, x ∈ L ∨ x.k ∈ ks))
          (fun iv _ => (intOf iv + 1).toNat)
        case atStart =>
          refine ⟨L.length, M0, ?_, Nat.le_refl _, by omega, ⟨hS0.out.1, by simp, fun x hx => .inr (hS0.out.2 x hx)⟩⟩
          by_cases h0 : L.length = 0
          · exact .inl ⟨h0, by rw [h0]; rfl⟩
          · exact .inr ⟨L.length - 1, by omega, by congr 1; omega⟩
        case round =>
          clear hS0
          obtain ⟨j, M, hjv, hj, hMl, hS⟩ := hrel
          rcases hjv with ⟨rfl, rfl⟩ | ⟨n, rfl, rfl⟩
          · have hall : Hid (Twt W wr tb ub L M (.slice la L.length lc) ∧ (∀ x ∈ L, x ∈ M) ∧ ∀ x ∈ M, x ∈ L ∨ x.k ∈ ks) := ⟨hS.out.1, fun x hx => hS.out.2.1 x (by simpa using hx), hS.out.2.2⟩
            clear hS hMl hj
            go_wp2_with fail
            go_loopw [10] (fun iv wr => ∃ (i : Nat) (M : List E), iv = .int .i64 i ∧ i ≤ ks.length ∧ Hid (Twt W wr tb ub L M (.slice la L.length lc) ∧ (∀ x ∈ L, x ∈ M) ∧ ∀ x ∈ M, x ∈ L ∨ x.k ∈ ks.drop i))
              (fun iv _ => ks.length - (intOf iv).toNat)
            case atStart => exact ⟨0, M, rfl, by omega, ⟨hall.out.1, hall.out.2.1, by simpa using hall.out.2.2⟩⟩
            case round =>
              clear hall
              obtain ⟨i, M, rfl, hi, hS⟩ := hrel
              by_cases hlt : i < ks.length
              · have hdi : decide ((i : Int) < ks.length) = true := by simp; omega
                obtain ⟨k, hki⟩ : ∃ k, ks[i]? = some k := ⟨_, List.getElem?_eq_getElem hlt⟩
                obtain ⟨bb, off, rfl, hbb, hkm, c0⟩ := (hb.below hS.out.1.below).at hki
                have hdr : Hid (ks.drop i = k :: ks.drop (i + 1)) := ⟨by
                  rw [List.drop_eq_getElem_cons hlt]
                  congr 1
                  exact (List.getElem?_eq_some_iff.1 hki).2⟩
                unfold maxLen at hkm
                have hkm' : k.length ≤ 9223372036854775807 := by omega
                replace hki : Hid _ := ⟨hki⟩
                obtain ⟨o, ho⟩ : ∃ o, Hid (gt L k = o) := ⟨_, ⟨rfl⟩⟩
                have hget := two_get hS.out.1 k hkm' ho
                cases o with
                | some v =>
                  have hS5 : Hid (∀ w5, Twt W w5 tb ub L M (.slice la L.length lc) → Twt W w5 tb ub L M (.slice la L.length lc) ∧ (∀ x ∈ L, x ∈ M) ∧ ∀ x ∈ M, x ∈ L ∨ x.k ∈ ks.drop (i + 1)) := ⟨fun w5 h5 => ⟨h5, hS.out.2.1, fun x hx => by
                    rcases hS.out.2.2 x hx with h | h
                    · exact .inl h
                    · rw [hdr.out] at h
                      rcases List.mem_cons.1 h with h | h
                      · have hy := gt_some ho.out
                        exact .inl (hS.out.1.srtM.un hx (hS.out.2.1 _ hy) h ▸ hy)
                      · exact .inr h⟩⟩
                  have hvo : vOf (some v) = v := rfl
                  have hso : (some v).isSome = true := rfl
                  rw [hvo, hso] at hget
                  clear hS hkm hvo hso
                  replace hget : Hid _ := ⟨hget⟩
                  go_wp2_with fail
                  refine hget.out.mono ?_
                  rintro r w5 ⟨rfl, h5⟩
                  have hS6 : Hid _ := ⟨hS5.out _ h5⟩
                  clear h5 hS5 hget
                  go_wp2_with fail
                  exact ⟨⟨i + 1, M, by go_num, by omega, hS6⟩, by simp [intOf] <;> omega⟩
                | none =>
                  have hS5 : Hid (∀ w5, Twt W w5 tb ub L (delE k M) (.slice la L.length lc) → Twt W w5 tb ub L (delE k M) (.slice la L.length lc) ∧ (∀ x ∈ L, x ∈ delE k M) ∧ ∀ x ∈ delE k M, x ∈ L ∨ x.k ∈ ks.drop (i + 1)) := ⟨fun w5 h5 => ⟨h5, fun x hx => mem_delE.2 ⟨hS.out.2.1 x hx, gt_none ho.out x hx⟩, fun x hx => by
                    obtain ⟨hx1, hx2⟩ := mem_delE.1 hx
                    rcases hS.out.2.2 x hx1 with h | h
                    · exact .inl h
                    · rw [hdr.out] at h
                      rcases List.mem_cons.1 h with h | h
                      · exact absurd h hx2
                      · exact .inr h⟩⟩
                  have hvo : vOf none = { data := #[] } := rfl
                  have hso : (none : Option ByteArray).isSome = false := rfl
                  rw [hvo, hso] at hget
                  have hbl5 : Hid (∀ w5, Twt W w5 tb ub L M (.slice (some ⟨bb, off, none⟩) 0 0) → True) := ⟨fun _ _ => trivial⟩
                  have hc5 : Hid (∀ w5, Twt W w5 tb ub L M (.slice la L.length lc) → w5.cell? ⟨bb, off + i, none⟩ = some (.string (bt k))) := ⟨fun w5 h5 => by
                    obtain ⟨bb', off', e, _, _, c⟩ := (hb.below h5.below).at hki.out
                    cases e
                    exact c⟩
                  clear hS hkm hvo hso hbl5
                  replace hget : Hid _ := ⟨hget⟩
                  go_wp2_with fail
                  refine hget.out.mono ?_
                  rintro r w5 ⟨rfl, h5⟩
                  have c5 := hc5.out _ h5
                  have hdrp := two_drop h5 k hkm' ⟨rfl⟩
                  replace hdrp : Hid _ := ⟨hdrp⟩
                  clear hget hc5 c0
                  replace h5 : Hid _ := ⟨h5⟩
                  go_wp2_with fail
                  refine hdrp.out.mono ?_
                  rintro r w6 ⟨rfl, h6⟩
                  have hS6 : Hid _ := ⟨hS5.out _ h6⟩
                  clear h6 hS5 hdrp h5 c5
                  go_wp2_with fail
                  exact ⟨⟨i + 1, _, by go_num, by omega, hS6⟩, by simp [intOf] <;> omega⟩
              · have hML : M = L := two_end hS.out.1.srtL hS.out.1.srtM hS.out.2.1 fun x hx => by
                  rcases hS.out.2.2 x hx with h | h
                  · exact h
                  · rw [List.drop_eq_nil_of_le (by omega)] at h; cases h
                subst hML
                have hdi : decide ((i : Int) < ks.length) = false := by simp; omega
                have hdin : decide (i < ks.length) = false := by simp; omega
                have hT4 : Hid _ := ⟨hS.out.1⟩
                clear hS
                go_wp2_with fail
                have hMl120 : M.length ≤ 120 := hLl
                have hwk := two_walk hT4.out (es := M) ⟨List.take_of_length_le hMl120⟩
                replace hwk : Hid _ := ⟨hwk⟩
                refine hwk.out.mono ?_
                rintro r w5 ⟨ra, rc, rfl, hr5, h5⟩
                have htd := told_any hr5 (by omega)
                replace htd : Hid _ := ⟨htd⟩
                replace h5 : Hid _ := ⟨h5⟩
                clear hwk hT4 hr5
                go_wp2_with fail
                refine htd.out.mono ?_
                rintro r w6 ⟨ta, tc, rfl, hr6, hg6⟩
                have h6 := h5.out.keep hg6
                have hr6' := rw_of33 hr6
                have htd2 := told_any h6.row (by omega)
                replace htd2 : Hid _ := ⟨htd2⟩
                replace hr6' : Hid _ := ⟨hr6'⟩
                replace h6 : Hid _ := ⟨h6⟩
                clear htd h5 hr6 hg6
                go_wp2_with fail
                refine htd2.out.mono ?_
                rintro r w7 ⟨ta2, tc2, rfl, hr7, hg7⟩
                have h7 := h6.out.keep hg7
                have hsm := same_any (World.ownsRow.kept hr6'.out hg7 (Classical.em _)) (rw_of33 hr7) (by omega)
                replace hsm : Hid _ := ⟨hsm⟩
                replace h7 : Hid _ := ⟨h7⟩
                clear htd2 h6 hr6' hr7 hg7
                go_wp2_with fail
                refine hsm.out.mono ?_
                rintro r w8 ⟨rfl, hg8⟩
                have h8 := h7.out.keep hg8
                have hnu := two_nodesU h8 (z := nds M) ⟨rfl⟩
                have hnt := two_nodesT h8 (z := nds M) ⟨rfl⟩
                replace h8 : Hid _ := ⟨h8⟩
                replace hnu : Hid _ := ⟨hnu⟩
                replace hnt : Hid _ := ⟨hnt⟩
                clear hsm h7 hg8
                go_wp2_with fail
                refine hnu.out.mono ?_
                rintro r w9 ⟨rfl, rfl⟩
                go_wp2_with fail
                refine hnt.out.mono ?_
                rintro r w9 ⟨rfl, rfl⟩
                clear hnu hnt
                go_wp2_with fail
                clear hi hlt hdi hdin
                go_loopw [14] (fun iv wr => ∃ i : Nat, iv = .int .i64 i ∧ i ≤ M.length ∧ Hid (Twt W wr tb ub M (M.drop i) (.slice la M.length lc)))
                  (fun iv _ => M.length - (intOf iv).toNat)
                case atStart => exact ⟨0, rfl, by omega, ⟨by simpa using h8.out⟩⟩
                case round =>
                  clear h8
                  obtain ⟨i, rfl, hi, hS⟩ := hrel
                  by_cases hlt : i < M.length
                  · have hdi : decide ((i : Int) < M.length) = true := by simp; omega
                    obtain ⟨x, hx⟩ : ∃ x, M[i]? = some x := ⟨_, List.getElem?_eq_getElem hlt⟩
                    have hxk := hLk.out x (List.mem_of_getElem? hx)
                    obtain ⟨g, rfl, hgl, -, c0, c1, -⟩ := hS.out.row.at hx
                    obtain ⟨e1, e2, e3⟩ := del_step hS.out.srtL hx
                    have hd1 := two_drop hS.out x.k (by omega) ⟨e2⟩
                    rw [e1] at hd1
                    have hvo : vOf (some x.v) = x.v := rfl
                    have hso : (some x.v).isSome = true := rfl
                    rw [hvo, hso] at hd1
                    have hT3 : Hid (∀ w5, Twt W w5 tb ub M (M.drop (i + 1)) (.slice (some ⟨g, 0, none⟩) M.length lc) → w5.cell? ⟨g, i * 2, none⟩ = some (.string (bt x.k)) ∧ w5.cell? ⟨g, i * 2 + 1, none⟩ = some (.string x.v)) := ⟨fun w5 h5 => by
                      obtain ⟨g', e, _, _, q0, q1, _⟩ := h5.row.at hx
                      cases e
                      exact ⟨q0, q1⟩⟩
                    have he3 : Hid (gt (M.drop (i + 1)) x.k = none) := ⟨e3⟩
                    have hn2 : (i : Int) < (M.length : Int) := by omega
                    replace hd1 : Hid _ := ⟨hd1⟩
                    replace hx : Hid _ := ⟨hx⟩
                    clear hS e1 e2 e3 hvo hso
                    go_wp2_with fail
                    refine hd1.out.mono ?_
                    rintro r w5 ⟨rfl, h5⟩
                    obtain ⟨c2, c3⟩ := hT3.out _ h5
                    have hd2 := two_drop h5 x.k (by omega) he3
                    rw [delE_not he3.out] at hd2
                    have hvo : vOf none = { data := #[] } := rfl
                    have hso : (none : Option ByteArray).isSome = false := rfl
                    rw [hvo, hso] at hd2
                    replace hd2 : Hid _ := ⟨hd2⟩
                    clear h5 hd1 c0 c1 hvo hso
                    go_wp2_with fail
                    refine hd2.out.mono ?_
                    rintro r w6 ⟨rfl, h6⟩
                    obtain ⟨c4, c5⟩ := hT3.out _ h6
                    replace h6 : Hid _ := ⟨h6⟩
                    clear hd2 c2 c3 hT3
                    go_wp2_with fail
                    exact ⟨⟨i + 1, by go_num, by omega, h6⟩, by simp [intOf] <;> omega⟩
                  · have hdi : decide ((i : Int) < M.length) = false := by simp; omega
                    have hdin : decide (i < M.length) = false := by simp; omega
                    have hz : M.drop i = [] := List.drop_eq_nil_of_le (by omega)
                    rw [hz] at hS
                    clear hz
                    go_wp2_with fail
                    refine (alive_any _).mono ?_
                    rintro r w5 ⟨rfl, hg5⟩
                    have h5 := hS.out.keep hg5
                    have hnu := two_nodesU h5 (z := 1) ⟨rfl⟩
                    have hlu := two_lenU h5 (z := 0) ⟨rfl⟩
                    have hfin : Hid (Below W.heap.size W w5) := ⟨h5.below⟩
                    replace hnu : Hid _ := ⟨hnu⟩
                    replace hlu : Hid _ := ⟨hlu⟩
                    clear hS h5 hg5
                    go_wp2_with fail
                    refine hnu.out.mono ?_
                    rintro r w9 ⟨rfl, rfl⟩
                    go_wp2_with fail
                    refine hlu.out.mono ?_
                    rintro r w9 ⟨rfl, rfl⟩
                    go_wp2_with fail
                    go_ret
                    exact ⟨rfl, hfin.out⟩
          · have hdn : decide ((n : Int) ≥ 0) = true := by simp
            obtain ⟨x, hx⟩ : ∃ x, L[n]? = some x := ⟨_, List.getElem?_eq_getElem (by omega)⟩
            have hxm := List.mem_of_getElem? hx
            have hxk := hLk.out x hxm
            obtain ⟨g, rfl, hgl, -, c0, c1, -⟩ := hS.out.1.row.at hx
            have hput := two_put hS.out.1 x.k x.v (by omega) (by omega)
            have hM2 := putE_le hS.out.1.srtM ⟨x.k, x.v⟩
            have hxe : (⟨x.k, x.v⟩ : E) = x := rfl
            rw [hxe] at hput hM2
            have hT3 : ∀ w5, Twt W w5 tb ub L (putE x M) (.slice (some ⟨g, 0, none⟩) L.length lc) → w5.cell? ⟨g, n * 2, none⟩ = some (.string (bt x.k)) ∧ w5.cell? ⟨g, n * 2 + 1, none⟩ = some (.string x.v) := fun w5 h5 => by
              obtain ⟨g', e, _, _, q0, q1, _⟩ := h5.row.at hx
              cases e
              exact ⟨q0, q1⟩
            have hput2 : ∀ w', wr.grownBy w' none → Calls Try.prog 12 #[ptr ub, .string (bt x.k), .string x.v] w' fun r w' => (∃ x y, r = .returned (.tuple #[x, y])) ∧ Twt W w' tb ub L (putE x M) (.slice (some ⟨g, 0, none⟩) L.length lc) := fun w' hg => two_put (hS.out.1.keep hg) x.k x.v (by omega) (by omega)
            have hS5 : Hid (∀ w5, Twt W w5 tb ub L (putE x M) (.slice (some ⟨g, 0, none⟩) L.length lc) → Twt W w5 tb ub L (putE x M) (.slice (some ⟨g, 0, none⟩) L.length lc) ∧ (∀ y ∈ L.drop n, y ∈ putE x M) ∧ ∀ y ∈ putE x M, y ∈ L ∨ y.k ∈ ks) := ⟨fun w5 h5 => ⟨h5, fun y hy => by
              have e : L.drop n = x :: L.drop (n + 1) := by
                rw [List.drop_eq_getElem_cons (by omega)]
                congr 1
                exact (List.getElem?_eq_some_iff.1 hx).2
              rw [e] at hy
              rcases List.mem_cons.1 hy with rfl | hy
              · exact mem_putE.2 (.inl rfl)
              · by_cases hkk : y.k = x.k
                · exact mem_putE.2 (.inl (hS.out.1.srtL.un (List.mem_of_mem_drop hy) hxm hkk))
                · exact mem_putE.2 (.inr ⟨hS.out.2.1 y hy, hkk⟩), fun y hy => by
              rcases mem_putE.1 hy with rfl | ⟨hy, _⟩
              · exact .inl hxm
              · exact hS.out.2.2 y hy⟩⟩
            have hwn : wrap64 ((n : Int) - 1) = (n : Int) - 1 := by unfold wrap64; omega
            replace hM2 : Hid _ := ⟨hM2⟩
            replace hT3 : Hid _ := ⟨hT3⟩
            replace hput2 : Hid _ := ⟨hput2⟩
            have hMl2 : Hid _ := ⟨hMl⟩
            have hn1 : n < L.length := by omega
            have hn2 : (n : Int) < (L.length : Int) := by omega
            have hn3 : (0 : Int) ≤ (n : Int) := by omega
            have hn4 : decide ((n : Int) < (L.length : Int)) = true := by simp; omega
            have hn5 : ((n : Int)).toNat = n := by simp
            clear hput hx hS hMl hj hxk hxm hxe hLi hLl hLk hk hd hd' hkl ha hb htl
            go_wp2_with fail
            go_region_held3 (fun w' => w'.cell? ⟨g, n * 2, none⟩ = some (.string (bt x.k)) ∧ w'.cell? ⟨g, n * 2 + 1, none⟩ = some (.string x.v))
              (first
                | go_keep
                | exact hT3.out _ hT5)
              ((go_at_call 12
                refine (hput2.out _ (grown_drew _)).mono ?_
                rintro e w5 ⟨⟨p1, p2, rfl⟩, hT5⟩))
            have hS6 : Hid _ := ⟨hS5.out _ hT5⟩
            clear hT5 hS5 hput2 hT3
            go_wp2_with fail
            refine ⟨⟨n, putE x M, ?_, by omega, by have := hM2.out; have := hMl2.out; omega, hS6⟩, by simp [intOf] <;> omega⟩
            cases n with
            | zero => exact .inl ⟨rfl, by first | rfl | exact (by decide) | (simp [wrap64])⟩
            | succ n => exact .inr ⟨n, rfl, by congr 1; omega⟩
  · have hd : (120 : Int) < ks.length := by omega
    have hfin : Hid (Below W.heap.size W w2) := ⟨hB2.below⟩
    clear hB2 hU hg2
    go_wp2
    go_ret
    exact ⟨rfl, hfin.out⟩
theorem any_law (v : Value) (xs : List Ac) (u : Value) (ks : List K) (W : World) (ha : Acs W.heap.size W v xs) (hb : Strs W.heap.size W u ks) :
    Calls Try.prog 5 #[v, u] W fun e W' => e = .returned (.bool true) ∧ Below W.heap.size W W' := by
  obtain ⟨a, cap, rfl, _⟩ := ha.shape
  obtain ⟨b, cap2, rfl, hl⟩ := hb.shape
  exact any_walk a cap xs b cap2 ks W ha hb hl
end Go.Proofs.Ytpcdmjalfabbmaa
