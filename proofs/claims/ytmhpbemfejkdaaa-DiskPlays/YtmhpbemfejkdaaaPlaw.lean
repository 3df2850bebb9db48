/- The walk of the law DiskPlays. -/
import Derived.Test.YtmhpbemfejkdaaaActa
import Derived.Test.YtmhpbemfejkdaaaActs
import Derived.Deep.DeepCutAuto
import Derived.Deep.CutBlock
namespace Go.Proofs.Ytmhpbemfejkdaaa
open Go.RowKit Go.IntWalk Go.Maps Go.Sort
set_option linter.unusedVariables false
set_option linter.unusedSimpArgs false

theorem Rsk.low {w : World} {rb : Nat} {N : Nat → Prop} {l : List Sg} {root : List Int} (h : Rsk w rb N l root) : Rsk w rb (fun i => N i ∧ i < w.heap.size) l root := by
  obtain ⟨rv, c1, hr⟩ := h.c1
  obtain ⟨sv, c0, hs⟩ := h.c0
  refine ⟨⟨sv, c0, ?_⟩, ⟨rv, c1, hr.low⟩, h.f0, h.f1, fun e => h.nrb e.1, h.up, h.len, fun x hx => by
    obtain ⟨a1, a2, a3, a4, a5, a6⟩ := h.seg x hx
    exact ⟨a1, a2, a3, a4, a5, a6.low⟩, h.rl⟩
  obtain e | ⟨b, off, c, e, hn, hb, r⟩ := hs
  · exact .inl e
  · exact .inr ⟨b, off, c, e, ⟨hn, hb⟩, hb, r⟩
theorem St.low {W w : World} {sb bm rb : Nat} {N M : Nat → Prop} {l rl : List Sg} {root : List Int} (h : St W w sb bm rb N M l rl root) : St W w sb bm rb (fun i => N i ∧ i < w.heap.size) (fun i => M i ∧ i < w.heap.size) l rl root :=
  ⟨h.d.low, h.r.low, h.e, h.n1, h.n2, fun e => h.n3 e.1, fun e => h.n4 e.1, fun e => h.n5 e.1, h.b1, h.b2, h.b3⟩
/-- Bytes of the law's own, in block og, that can be read and written. -/
def OwnC (w : World) (v : Value) (len og : Nat) : Prop := (len = 0 ∨ ∃ oc, v = .slice (some ⟨og, 0, none⟩) len oc) ∧ ∀ k, k < len → (∃ z, w.cell? ⟨og, k, none⟩ = some (.int .u8 z)) ∧ w.frozen? ⟨og, k, none⟩ = false
theorem OwnC.grown {w w' : World} {v : Value} {len og : Nat} {row : Option Nat} (h : OwnC w v len og) (hg : w.grownBy w' row) (hn : some og ≠ row) (hl : og < w.heap.size) : OwnC w' v len og :=
  ⟨h.1, fun k hk => by
    obtain ⟨⟨z, hz⟩, hf⟩ := h.2 k hk
    exact ⟨⟨z, hg.cell hz hn⟩, (World.frozen?_of_block (a := ⟨og, k, none⟩) (hg.block og hl hn)).trans hf⟩⟩
theorem OwnC.set {w : World} {v : Value} {len og k : Nat} (h : OwnC w v len og) (hk : k < len) (z : Int) : OwnC (w.setCell ⟨og, k, none⟩ (.int .u8 z)) v len og :=
  ⟨h.1, fun j hj => by
    obtain ⟨⟨z2, hz⟩, hf⟩ := h.2 j hj
    refine ⟨?_, by rw [World.frozen?_setCell]; exact hf⟩
    by_cases e : j = k
    · subst e
      exact ⟨z, World.cell?_setCell_same _ _ _ hz⟩
    · exact ⟨z2, (World.cell?_setCell_other _ _ _ _ (by intro e2; cases e2; exact e rfl)).trans hz⟩⟩
theorem own_of {w : World} {base n : Nat} {v : Value} {zs : List Int} (h : w.ownsRow base 5 1 v n (zs.map (Value.int .u8))) (hb : base < w.heap.size) : ∃ og, base ≤ og ∧ og < w.heap.size ∧ OwnC w v n og := by
  have hk : zs.length = n := by simpa using h.1
  rcases h.2 with ⟨rfl, h0⟩ | ⟨g, cap, cur, rfl, hbg, hg, hn, hm, hs, ht⟩
  · exact ⟨base, Nat.le_refl _, hb, .inl h0, fun k hk => by omega⟩
  · refine ⟨g, hbg, (Array.getElem?_eq_some_iff.1 hg).1, .inr ⟨cap, rfl⟩, fun j hj => ⟨⟨zs[j]?.getD 0, ?_⟩, by simp [World.frozen?, hg]⟩⟩
    have hc := h.cells (g := g) rfl j (.int .u8 (zs[j]?.getD 0)) (by simp [show j < zs.length by omega])
    have hadd : (⟨g, 0, none⟩ : Addr).add j = ⟨g, 0 + j, none⟩ := by unfold Addr.add; split <;> simp_all
    rw [hadd, Nat.zero_add] at hc
    exact hc
theorem St.after {W w2 w3 w4 : World} {sb bm rb og oa_ : Nat} {N M Na Mb : Nat → Prop} {l rl la lb : List Sg} {root : List Int} {v : Value} {len : Nat} {q : AL} (hSt : St W w2 sb bm rb N M l rl root) (hOff : Off og sb bm rb N M) (hoc : OwnC w2 v len og) (ho2 : og < w2.heap.size) (hgw2 : W.grownBy w2 none)
    (hDb : Dsk w4 sb bm Na la root) (hEa : la.map Sg.abs = q) (hNa : ∀ k, Na k → Or_ N w2.drew k) (hga : w2.drew.grownBy w3 (some bm)) (hRb : Rsk w4 rb Mb lb root) (hEb : lb.map Sg.abs = q) (hMb : ∀ k, Mb k → Or_ M w3 k) (hgb : w3.grownBy w4 (some rb)) :
    St W w4 sb bm rb Na Mb la lb root ∧ Off og sb bm rb Na Mb ∧ OwnC w4 v len og ∧ W.grownBy w4 none ∧ og < w4.heap.size := by
  obtain ⟨o1, o2, o3, o4, o5⟩ := hOff
  have s1 := hga.size
  have s2 := hgb.size
  have e1 : w2.drew.heap.size = w2.heap.size := rfl
  have b1 := hSt.d.sbl
  have b2 := hSt.d.bml
  have b3 := hSt.r.rbl
  refine ⟨⟨hDb, hRb, hEa.trans hEb.symm, hSt.n1, hSt.n2, fun e => or_not hSt.n3 b3 (hNa _ e), fun e => or_not hSt.n4 (by omega) (hMb _ e), fun e => or_not hSt.n5 (by omega) (hMb _ e), hSt.b1, hSt.b2, hSt.b3⟩, ⟨o1, o2, o3, fun e => or_not o4 ho2 (hNa _ e), fun e => or_not o5 (by omega) (hMb _ e)⟩, ?_, grown_new (grown_new (grown_none hgw2 (grown_drew _)) hga hSt.b2) hgb hSt.b3, by omega⟩
  exact ((hoc.grown (grown_drew _) (by simp) ho2).grown hga (fun e => o2 (by cases e; rfl)) ho2).grown hgb (fun e => o3 (by cases e; rfl)) (by omega)
theorem St.after_swap {W w2 w3 w4 : World} {sb bm rb og : Nat} {N M Na Mb : Nat → Prop} {l rl : List Sg} {root root' : List Int} {v : Value} {len : Nat} (hSt : St W w2 sb bm rb N M l rl root) (hOff : Off og sb bm rb N M) (hoc : OwnC w2 v len og) (ho2 : og < w2.heap.size) (hgw2 : W.grownBy w2 none)
    (hDb : Dsk w4 sb bm Na l root') (hNa : ∀ k, Na k → Or_ N w2.drew k) (hga : w2.drew.grownBy w3 (some sb)) (hRb : Rsk w4 rb Mb rl root') (hMb : ∀ k, Mb k → Or_ M w3 k) (hgb : w3.grownBy w4 (some rb)) :
    St W w4 sb bm rb Na Mb l rl root' ∧ Off og sb bm rb Na Mb ∧ OwnC w4 v len og ∧ W.grownBy w4 none ∧ og < w4.heap.size := by
  obtain ⟨o1, o2, o3, o4, o5⟩ := hOff
  have s1 := hga.size
  have s2 := hgb.size
  have e1 : w2.drew.heap.size = w2.heap.size := rfl
  have b1 := hSt.d.sbl
  have b2 := hSt.d.bml
  have b3 := hSt.r.rbl
  refine ⟨⟨hDb, hRb, hSt.e, hSt.n1, hSt.n2, fun e => or_not hSt.n3 b3 (hNa _ e), fun e => or_not hSt.n4 (by omega) (hMb _ e), fun e => or_not hSt.n5 (by omega) (hMb _ e), hSt.b1, hSt.b2, hSt.b3⟩, ⟨o1, o2, o3, fun e => or_not o4 ho2 (hNa _ e), fun e => or_not o5 (by omega) (hMb _ e)⟩, ?_, grown_new (grown_new (grown_none hgw2 (grown_drew _)) hga hSt.b1) hgb hSt.b3, by omega⟩
  exact ((hoc.grown (grown_drew _) (by simp) ho2).grown hga (fun e => o1 (by cases e; rfl)) ho2).grown hgb (fun e => o3 (by cases e; rfl)) (by omega)
set_option maxRecDepth 100000 in
set_option maxHeartbeats 20000000 in
theorem plays_walk (a : Option Addr) (cap : Nat) (xs : List Ac) (W : World) (h : Acs W (.slice a xs.length cap) xs) :
    Calls Try.prog 3 #[.slice a xs.length cap] W fun e w' => e = .returned (.bool true) ∧ Below W.heap.size W w' := by
  go_enter Try.func3, Try.ntmps3
  go_wp2_with fail
  refine (new_any W).mono ?_
  rintro r w1 ⟨sb0, bm0, rfl, hsb0, hbm0, hd0, hg1⟩
  have hg2 := World.grownBy_alloc w1 (.cells #[.slice none 0 0, .slice none 0 0] 29) none
  have hs1 := hg1.size
  have hSt0 : St W (w1.alloc (.cells #[.slice none 0 0, .slice none 0 0] 29)) sb0 bm0 w1.heap.size (fun _ => False) (fun _ => False) [] [] [] := by
    have h1 := hd0.sbl
    have h2 := hd0.bml
    exact ⟨hd0.grown0 hg2, ⟨⟨_, by simp, .inl ⟨.inl rfl, rfl⟩⟩, ⟨_, by simp, Btx.nil _ _⟩, by simp, by simp, id, List.Pairwise.nil, by simp, by simp, by simp⟩, rfl, by omega, by omega, id, id, id, hsb0, hbm0, hs1⟩
  have hgw0 := grown_none hg1 hg2
  go_wp2_with fail
  generalize w1.alloc (.cells #[.slice none 0 0, .slice none 0 0] 29) = w2 at *
  generalize w1.heap.size = rb0 at *
  clear hg2 hd0 hg1
  go_loopw [3, 4, 5] (fun d m i wr => ∃ (j sb bm rb : Nat) (N M : Nat → Prop) (l rl : List Sg) (root : List Int), j ≤ xs.length ∧ d = .pointer (some ⟨sb, 0, none⟩) ∧ m = .pointer (some ⟨rb, 0, none⟩) ∧ i = .int .i64 j ∧ St W wr sb bm rb N M l rl root ∧ W.grownBy wr none)
    (fun _ _ i _ => xs.length - (intOf i).toNat)
  case atStart => exact ⟨0, sb0, bm0, rb0, _, _, [], [], [], by omega, rfl, rfl, rfl, hSt0, hgw0⟩
  case round =>
    obtain ⟨j, sb, bm, rb, N0, M0, l, rl, root, hj, rfl, rfl, rfl, hSt00, hgw⟩ := hrel
    by_cases hjl : j < xs.length
    · have hdj : decide ((j : Int) < (xs.length : Int)) = true := by simp; omega
      by_cases hj180 : j < 180
      · have hdj2 : decide ((j : Int) < 180) = true := by simp; omega
        obtain ⟨y, hy⟩ : ∃ y, xs[j]? = some y := ⟨_, List.getElem?_eq_getElem hjl⟩
        obtain ⟨b, off, rfl, hbl, hyo, hyc⟩ := h.at hy
        have hc0 := grown_cell hgw (show W.cell? ⟨b, off + j * 5, none⟩ = some (.int .i64 y.kd) by simpa using hyc 0 _ rfl)
        have hc1 := grown_cell hgw (show W.cell? ⟨b, off + j * 5 + 1, none⟩ = some (.int .i64 y.s) by simpa using hyc 1 _ rfl)
        have hc2 := grown_cell hgw (show W.cell? ⟨b, off + j * 5 + 2, none⟩ = some (.int .i64 y.n) by simpa using hyc 2 _ rfl)
        have hc3 := grown_cell hgw (show W.cell? ⟨b, off + j * 5 + 3, none⟩ = some (.slice y.ba y.b.length y.bc) by simpa using hyc 3 _ rfl)
        have hc4 := grown_cell hgw (show W.cell? ⟨b, off + j * 5 + 4, none⟩ = some (.slice y.ka y.k.length y.kc) by simpa using hyc 4 _ rfl)
        have hgA := World.grownBy_alloc wr (.cells #[.int .i64 y.kd, .int .i64 y.s, .int .i64 y.n, .slice y.ba y.b.length y.bc, .slice y.ka y.k.length y.kc] 32) none
        by_cases hlong : y.b.length > 1100
        · have hdl : decide ((y.b.length : Int) > 1100) = true := by simp; omega
          go_wp2
          go_roundw
          case rel => exact ⟨j + 1, sb, bm, rb, _, _, l, rl, root, by omega, rfl, rfl, by go_num, hSt00.grown0 hgA, grown_none hgw hgA⟩
          case measure => simp [intOf]; omega
        · have hdl : decide ((y.b.length : Int) > 1100) = false := by simp; omega
          have hS0 := hSt00.low
          have hsz : (wr.alloc (.cells #[.int .i64 y.kd, .int .i64 y.s, .int .i64 y.n, .slice y.ba y.b.length y.bc, .slice y.ka y.k.length y.kc] 32)).heap.size = wr.heap.size + 1 := by simp
          have hgAB := grown_none hgA (World.grownBy_alloc (wr.alloc (.cells #[.int .i64 y.kd, .int .i64 y.s, .int .i64 y.n, .slice y.ba y.b.length y.bc, .slice y.ka y.k.length y.kc] 32)) (.cells #[] 5) none)
          have hlit := lit_none (wr.alloc (.cells #[.int .i64 y.kd, .int .i64 y.s, .int .i64 y.n, .slice y.ba y.b.length y.bc, .slice y.ka y.k.length y.kc] 32)) (wr.heap.size + 1) (by simp)
          rw [hsz] at hlit
          have hyb2 := hyo.2.2.2.1.grown0 (grown_none hgw hgAB)
          have hss : wr.heap.size + 1 < ((wr.alloc (.cells #[.int .i64 y.kd, .int .i64 y.s, .int .i64 y.n, .slice y.ba y.b.length y.bc, .slice y.ka y.k.length y.kc] 32)).alloc (.cells #[] 5)).heap.size := by simp
          have q0 : ((wr.alloc (.cells #[.int .i64 y.kd, .int .i64 y.s, .int .i64 y.n, .slice y.ba y.b.length y.bc, .slice y.ka y.k.length y.kc] 32)).alloc (.cells #[] 5)).cell? ⟨wr.heap.size, 0, none⟩ = some (.int .i64 y.kd) := by simp
          have q1 : ((wr.alloc (.cells #[.int .i64 y.kd, .int .i64 y.s, .int .i64 y.n, .slice y.ba y.b.length y.bc, .slice y.ka y.k.length y.kc] 32)).alloc (.cells #[] 5)).cell? ⟨wr.heap.size, 1, none⟩ = some (.int .i64 y.s) := by simp
          have q2 : ((wr.alloc (.cells #[.int .i64 y.kd, .int .i64 y.s, .int .i64 y.n, .slice y.ba y.b.length y.bc, .slice y.ka y.k.length y.kc] 32)).alloc (.cells #[] 5)).cell? ⟨wr.heap.size, 2, none⟩ = some (.int .i64 y.n) := by simp
          have q3 : ((wr.alloc (.cells #[.int .i64 y.kd, .int .i64 y.s, .int .i64 y.n, .slice y.ba y.b.length y.bc, .slice y.ka y.k.length y.kc] 32)).alloc (.cells #[] 5)).cell? ⟨wr.heap.size, 3, none⟩ = some (.slice y.ba y.b.length y.bc) := by simp
          have q4 : ((wr.alloc (.cells #[.int .i64 y.kd, .int .i64 y.s, .int .i64 y.n, .slice y.ba y.b.length y.bc, .slice y.ka y.k.length y.kc] 32)).alloc (.cells #[] 5)).cell? ⟨wr.heap.size, 4, none⟩ = some (.slice y.ka y.k.length y.kc) := by simp
          have FO : Hid (∀ (v2 : Value) (w2 : World), w2.ownsRow (wr.heap.size + 1) 5 1 v2 (0 + y.b.length) (([] ++ y.b).map (Value.int .u8)) → ((wr.alloc (.cells #[.int .i64 y.kd, .int .i64 y.s, .int .i64 y.n, .slice y.ba y.b.length y.bc, .slice y.ka y.k.length y.kc] 32)).alloc (.cells #[] 5)).grownBy w2 (Value.slice (some ⟨wr.heap.size + 1, 0, none⟩) 0 0).ownBlock →
              ∃ oa oc og, v2 = .slice oa y.b.length oc ∧ wr.heap.size + 1 ≤ og ∧ og < w2.heap.size ∧ OwnC w2 (.slice oa y.b.length oc) y.b.length og ∧ Btx (fun i => wr.heap.size + 1 ≤ i) w2 (.slice oa y.b.length oc) y.b ∧ wr.grownBy w2 none ∧
                w2.cell? ⟨wr.heap.size, 0, none⟩ = some (.int .i64 y.kd) ∧ w2.cell? ⟨wr.heap.size, 1, none⟩ = some (.int .i64 y.s) ∧ w2.cell? ⟨wr.heap.size, 2, none⟩ = some (.int .i64 y.n) ∧ w2.cell? ⟨wr.heap.size, 3, none⟩ = some (.slice y.ba y.b.length y.bc) ∧ w2.cell? ⟨wr.heap.size, 4, none⟩ = some (.slice y.ka y.k.length y.kc)) := fun v2 w2 hr2 hg2 => by
            have hb := Btx.of_own hr2 (by simpa using hyb2.2)
            rw [List.nil_append] at hb
            obtain ⟨og, ho1, ho2, hoc⟩ := own_of hr2 (Nat.lt_of_lt_of_le hss hg2.size)
            obtain ⟨oa, oc, rfl⟩ := hb.1.shape
            rw [Nat.zero_add] at hoc
            have hne : some wr.heap.size ≠ (Value.slice (some ⟨wr.heap.size + 1, 0, none⟩) 0 0).ownBlock := by simp [Value.ownBlock]
            exact ⟨oa, oc, og, rfl, ho1, ho2, hoc, hb, hgAB.andThen hg2 fun k hk => .inl (by have e : wr.heap.size + 1 = k := by simpa [Value.ownBlock] using hk
                                                                                             omega), hg2.cell q0 hne, hg2.cell q1 hne, hg2.cell q2 hne, hg2.cell q3 hne, hg2.cell q4 hne⟩
          have hss' := Nat.le_of_lt hss
          clear q0 q1 q2 q3 q4
          go_upto_block 2 with (at_builtin; go_must (refine wpList_append_bts _ rfl (.tmp 38) (.tmp 40) rfl (wr.heap.size + 1) _ _ _ _ [] y.b rfl rfl hlit hyb2 (by omega) hss' ?_); intro v2 w2 hr2 hg2; obtain ⟨oa, oc, og, hv2, ho1, ho2, hoc, hown2, hgr2, a0, a1, a2, a3, a4⟩ := FO.out v2 w2 hr2 hg2; subst hv2)
          clear hlit hyb2 hgAB hsz hss hss' FO hr2 hg2 hc0 hc1 hc2 hc3 hc4 hSt00
          have hSt := hS0.grown0 hgr2
          have hgw2 := grown_none hgw hgr2
          have hyW := y.ok_grown hgw2 hyo
          have hyB := hyW.2.2.2.1
          have hsbl := hS0.d.sbl
          have hbml := hS0.d.bml
          have hrbl := hS0.r.rbl
          have hOff : Off og sb bm rb (fun i => N0 i ∧ i < wr.heap.size) (fun i => M0 i ∧ i < wr.heap.size) := ⟨by omega, by omega, by omega, fun e => by have := e.2; omega, fun e => by have := e.2; omega⟩
          have hyBn : Hid (∀ b off len cap, Value.slice y.ba y.b.length y.bc = .slice (some ⟨b, off, none⟩) len cap → y.b ≠ [] → some b ≠ some bm) := fun b off len cap e hn e2 => by
            have h1 := hyo.2.2.2.1.lt e hn
            have h2 := hSt.b2
            cases e2
            omega
          have hownR : Hid (∀ b off len cap, Value.slice oa y.b.length oc = .slice (some ⟨b, off, none⟩) len cap → y.b ≠ [] → some b ≠ some rb) := fun b off len cap e hn e2 => by
            have h1 := hown2.2 b off len cap e hn
            cases e2
            omega
          have hyBs : Hid (∀ b off len cap, Value.slice y.ba y.b.length y.bc = .slice (some ⟨b, off, none⟩) len cap → y.b ≠ [] → some b ≠ some sb) := fun b off len cap e hn e2 => by
            have h1 := hyo.2.2.2.1.lt e hn
            have h2 := hSt.b1
            cases e2
            omega
          have HAB : wr.heap.size < w2.heap.size ∧ wr.heap.size ≠ bm ∧ wr.heap.size ≠ rb := ⟨by omega, by omega, by omega⟩
          generalize (fun i => N0 i ∧ i < wr.heap.size) = N at *
          generalize (fun i => M0 i ∧ i < wr.heap.size) = M at *
          go_cut [3, 4, 7] (fun s3 s4 s7 wx => ∃ (sb' bm' rb' : Nat) (N' M' : Nat → Prop) (l' rl' : List Sg) (root' : List Int), s3 = .pointer (some ⟨sb', 0, none⟩) ∧ s4 = .pointer (some ⟨rb', 0, none⟩) ∧ s7 = .bool true ∧ St W wx sb' bm' rb' N' M' l' rl' root' ∧ Off og sb' bm' rb' N' M' ∧ OwnC wx (.slice oa y.b.length oc) y.b.length og ∧ W.grownBy wx none ∧ og < wx.heap.size)
          case first =>
            by_cases hk1 : y.kd = 1
            · have f1 : (y.kd == 1) = true := by simp [hk1]
              clear hk1
              have hq : ((apA y.s y.b (l.map Sg.abs)).1 == (apA y.s y.b (rl.map Sg.abs)).1) = true := by rw [hSt.e]; simp
              go_wp2_with fail
              have D0 := hSt.d.grown0 (grown_drew _)
              have R0 := hSt.r.grown0 (grown_drew _)
              have hwd : w2.grownBy w2.drew none := grown_drew _
              have ABR : Hid (wr.heap.size < w2.heap.size ∧ wr.heap.size ≠ bm ∧ wr.heap.size ≠ rb) := HAB
              go_region_held3 (fun w' => w'.cell? ⟨wr.heap.size, 1, none⟩ = some (.int .i64 y.s) ∧ w'.cell? ⟨wr.heap.size, 3, none⟩ = some (.slice y.ba y.b.length y.bc))
                (first
                  | exact ⟨grown_cell hwd a1, grown_cell hwd a3⟩
                  | exact ⟨k40, k41⟩
                  | exact ⟨k30, k31⟩)
                ((first
                  | (go_at_call 9
                     refine (d_append _ D0 y.s hyW.2.1.1 hyW.2.1.2 _ y.b (hown2.1.grown0 hwd)).mono ?_
                     rintro r w3 ⟨Na, la, rfl, hDa, hEa, hNa, hga⟩
                     have hRa := R0.grown hga (fun e => hSt.n2 (by cases e; rfl)) (fun k hk => by cases hk; exact hSt.n5)
                     have k30 := hga.cell (grown_cell hwd a1) (fun e => ABR.out.2.1 (by cases e; rfl))
                     have k31 := hga.cell (grown_cell hwd a3) (fun e => ABR.out.2.1 (by cases e; rfl))
                     have hBa := ((hyB.grown0 hwd).grown hga hyBn.out))
                  | (go_at_call 10
                     refine (r_append _ hRa y.s hyW.2.1.2 _ y.b (hBa) (by omega)).mono ?_
                     rintro r w4 ⟨Mb, lb, rfl, hRb, hEb, hMb, hgb⟩
                     have hDb := hDa.grown hgb (fun e => hSt.n1 (by cases e; rfl)) (fun e => hSt.n2 (by cases e; rfl)) (fun k hk => by cases hk; exact fun e => or_not hSt.n3 hSt.r.rbl (hNa _ e))
                     have k40 := hgb.cell k30 (fun e => ABR.out.2.2 (by cases e; rfl))
                     have k41 := hgb.cell k31 (fun e => ABR.out.2.2 (by cases e; rfl))
                     skip)))
              go_wp2_with fail
              go_meet
              case rel =>
                rw [← hSt.e] at hEb
                obtain ⟨z1, z2, z3, z4, z5⟩ := St.after (oa_ := 0) hSt hOff hoc ho2 hgw2 hDb hEa hNa hga hRb hEb hMb hgb
                exact ⟨sb, bm, rb, Na, Mb, la, lb, root, rfl, rfl, rfl, z1, z2, z3, z4, z5⟩
            have f1 : (y.kd == 1) = false := by simp [hk1]
            clear hk1
            by_cases hk2 : y.kd = 2
            · have f2 : (y.kd == 2) = true := by simp [hk2]
              clear hk2
              have hq : ((syA y.s (l.map Sg.abs)).1 == (syA y.s (rl.map Sg.abs)).1) = true := by rw [hSt.e]; simp
              go_wp2_with fail
              have D0 := hSt.d.grown0 (grown_drew _)
              have R0 := hSt.r.grown0 (grown_drew _)
              have hwd : w2.grownBy w2.drew none := grown_drew _
              have ABR : Hid (wr.heap.size < w2.heap.size ∧ wr.heap.size ≠ bm ∧ wr.heap.size ≠ rb) := HAB
              go_region_held3 (fun w' => w'.cell? ⟨wr.heap.size, 1, none⟩ = some (.int .i64 y.s))
                (first
                  | exact grown_cell hwd a1
                  | exact k40
                  | exact k30)
                ((first
                  | (go_at_call 11
                     refine (d_sync _ D0 y.s hyW.2.1.1 hyW.2.1.2).mono ?_
                     rintro r w3 ⟨Na, la, rfl, hDa, hEa, hNa, hga⟩
                     have hRa := R0.grown hga (fun e => hSt.n2 (by cases e; rfl)) (fun k hk => by cases hk; exact hSt.n5)
                     have k30 := hga.cell (grown_cell hwd a1) (fun e => ABR.out.2.1 (by cases e; rfl))
                     have hBa := ((hyB.grown0 hwd).grown hga hyBn.out))
                  | (go_at_call 12
                     refine (r_sync _ hRa y.s).mono ?_
                     rintro r w4 ⟨Mb, lb, rfl, hRb, hEb, hMb, hgb⟩
                     have hDb := hDa.grown hgb (fun e => hSt.n1 (by cases e; rfl)) (fun e => hSt.n2 (by cases e; rfl)) (fun k hk => by cases hk; exact fun e => or_not hSt.n3 hSt.r.rbl (hNa _ e))
                     have k40 := hgb.cell k30 (fun e => ABR.out.2.2 (by cases e; rfl))
                     skip)))
              go_wp2_with fail
              go_meet
              case rel =>
                rw [← hSt.e] at hEb
                obtain ⟨z1, z2, z3, z4, z5⟩ := St.after (oa_ := 0) hSt hOff hoc ho2 hgw2 hDb hEa hNa hga hRb hEb hMb hgb
                exact ⟨sb, bm, rb, Na, Mb, la, lb, root, rfl, rfl, rfl, z1, z2, z3, z4, z5⟩
            have f2 : (y.kd == 2) = false := by simp [hk2]
            clear hk2
            by_cases hk3 : y.kd = 3
            · have f3 : (y.kd == 3) = true := by simp [hk3]
              clear hk3
              have hq : ((cuA y.s y.n (l.map Sg.abs)).1 == (cuA y.s y.n (rl.map Sg.abs)).1) = true := by rw [hSt.e]; simp
              go_wp2_with fail
              have D0 := hSt.d.grown0 (grown_drew _)
              have R0 := hSt.r.grown0 (grown_drew _)
              have hwd : w2.grownBy w2.drew none := grown_drew _
              have ABR : Hid (wr.heap.size < w2.heap.size ∧ wr.heap.size ≠ bm ∧ wr.heap.size ≠ rb) := HAB
              go_region_held3 (fun w' => w'.cell? ⟨wr.heap.size, 1, none⟩ = some (.int .i64 y.s) ∧ w'.cell? ⟨wr.heap.size, 2, none⟩ = some (.int .i64 y.n))
                (first
                  | exact ⟨grown_cell hwd a1, grown_cell hwd a2⟩
                  | exact ⟨k40, k41⟩
                  | exact ⟨k30, k31⟩)
                ((first
                  | (go_at_call 13
                     refine (d_cut _ D0 y.s y.n hyW.2.1.1 hyW.2.1.2).mono ?_
                     rintro r w3 ⟨Na, la, rfl, hDa, hEa, hNa, hga⟩
                     have hRa := R0.grown hga (fun e => hSt.n2 (by cases e; rfl)) (fun k hk => by cases hk; exact hSt.n5)
                     have k30 := hga.cell (grown_cell hwd a1) (fun e => ABR.out.2.1 (by cases e; rfl))
                     have k31 := hga.cell (grown_cell hwd a2) (fun e => ABR.out.2.1 (by cases e; rfl))
                     have hBa := ((hyB.grown0 hwd).grown hga hyBn.out))
                  | (go_at_call 14
                     refine (r_cut _ hRa y.s y.n).mono ?_
                     rintro r w4 ⟨Mb, lb, rfl, hRb, hEb, hMb, hgb⟩
                     have hDb := hDa.grown hgb (fun e => hSt.n1 (by cases e; rfl)) (fun e => hSt.n2 (by cases e; rfl)) (fun k hk => by cases hk; exact fun e => or_not hSt.n3 hSt.r.rbl (hNa _ e))
                     have k40 := hgb.cell k30 (fun e => ABR.out.2.2 (by cases e; rfl))
                     have k41 := hgb.cell k31 (fun e => ABR.out.2.2 (by cases e; rfl))
                     skip)))
              go_wp2_with fail
              go_meet
              case rel =>
                rw [← hSt.e] at hEb
                obtain ⟨z1, z2, z3, z4, z5⟩ := St.after (oa_ := 0) hSt hOff hoc ho2 hgw2 hDb hEa hNa hga hRb hEb hMb hgb
                exact ⟨sb, bm, rb, Na, Mb, la, lb, root, rfl, rfl, rfl, z1, z2, z3, z4, z5⟩
            have f3 : (y.kd == 3) = false := by simp [hk3]
            clear hk3
            by_cases hk4 : y.kd = 4
            · have f4 : (y.kd == 4) = true := by simp [hk4]
              clear hk4
              have hq : ((reA y.s (l.map Sg.abs)).1 == (reA y.s (rl.map Sg.abs)).1) = true := by rw [hSt.e]; simp
              go_wp2_with fail
              have D0 := hSt.d.grown0 (grown_drew _)
              have R0 := hSt.r.grown0 (grown_drew _)
              have hwd : w2.grownBy w2.drew none := grown_drew _
              have ABR : Hid (wr.heap.size < w2.heap.size ∧ wr.heap.size ≠ bm ∧ wr.heap.size ≠ rb) := HAB
              go_region_held3 (fun w' => w'.cell? ⟨wr.heap.size, 1, none⟩ = some (.int .i64 y.s))
                (first
                  | exact grown_cell hwd a1
                  | exact k40
                  | exact k30)
                ((first
                  | (go_at_call 15
                     refine (d_remove _ D0 y.s hyW.2.1.1 hyW.2.1.2).mono ?_
                     rintro r w3 ⟨Na, la, rfl, hDa, hEa, hNa, hga⟩
                     have hRa := R0.grown hga (fun e => hSt.n2 (by cases e; rfl)) (fun k hk => by cases hk; exact hSt.n5)
                     have k30 := hga.cell (grown_cell hwd a1) (fun e => ABR.out.2.1 (by cases e; rfl))
                     have hBa := ((hyB.grown0 hwd).grown hga hyBn.out))
                  | (go_at_call 16
                     refine (r_remove _ hRa y.s).mono ?_
                     rintro r w4 ⟨Mb, lb, rfl, hRb, hEb, hMb, hgb⟩
                     have hDb := hDa.grown hgb (fun e => hSt.n1 (by cases e; rfl)) (fun e => hSt.n2 (by cases e; rfl)) (fun k hk => by cases hk; exact fun e => or_not hSt.n3 hSt.r.rbl (hNa _ e))
                     have k40 := hgb.cell k30 (fun e => ABR.out.2.2 (by cases e; rfl))
                     skip)))
              go_wp2_with fail
              go_meet
              case rel =>
                rw [← hSt.e] at hEb
                obtain ⟨z1, z2, z3, z4, z5⟩ := St.after (oa_ := 0) hSt hOff hoc ho2 hgw2 hDb hEa hNa hga hRb hEb hMb hgb
                exact ⟨sb, bm, rb, Na, Mb, la, lb, root, rfl, rfl, rfl, z1, z2, z3, z4, z5⟩
            have f4 : (y.kd == 4) = false := by simp [hk4]
            clear hk4
            by_cases hk5 : y.kd = 5
            · have f5 : (y.kd == 5) = true := by simp [hk5]
              clear hk5
              cases hgx : getS y.s rl with
              | some gx =>
                have he0 : errA y.s (l.map Sg.abs) = 0 := by rw [hSt.e, errA, getA_map, hgx]; rfl
                go_wp2_with fail
                refine (read_any w2 hSt.d (n := y.s) hyW.2.1.1 hyW.2.1.2).mono ?_
                rintro r w3 ⟨v3, rfl, hb3, hg3⟩
                rw [he0]
                have a1' := grown_cell hg3 a1
                clear he0
                go_wp2_with fail
                refine (rfind_any w3 (hSt.r.grown0 hg3) y.s).mono ?_
                rintro r w4 ⟨i4, rfl, rfl, hf⟩
                obtain ⟨kx, rfl, _, _⟩ := Found.some' hf hgx
                have hge : decide ((kx : Int) ≥ 0) = true := by simp
                go_wp2_with fail
                go_meet
                case rel => exact ⟨sb, bm, rb, N, M, l, rl, root, rfl, rfl, rfl, hSt.grown0 hg3, hOff, hoc.grown hg3 (by simp) ho2, grown_none hgw2 hg3, Nat.lt_of_lt_of_le ho2 hg3.size⟩
              | none =>
                have he0 : errA y.s (l.map Sg.abs) = 31 := by rw [hSt.e, errA, getA_map, hgx]; rfl
                go_wp2_with fail
                refine (read_any w2 hSt.d (n := y.s) hyW.2.1.1 hyW.2.1.2).mono ?_
                rintro r w3 ⟨v3, rfl, hb3, hg3⟩
                rw [he0]
                have a1' := grown_cell hg3 a1
                clear he0
                go_wp2_with fail
                refine (rfind_any w3 (hSt.r.grown0 hg3) y.s).mono ?_
                rintro r w4 ⟨i4, rfl, rfl, hf⟩
                obtain rfl := Found.none' hf hgx
                go_wp2_with fail
                go_meet
                case rel => exact ⟨sb, bm, rb, N, M, l, rl, root, rfl, rfl, rfl, hSt.grown0 hg3, hOff, hoc.grown hg3 (by simp) ho2, grown_none hgw2 hg3, Nat.lt_of_lt_of_le ho2 hg3.size⟩
            have f5 : (y.kd == 5) = false := by simp [hk5]
            clear hk5
            by_cases hk6 : y.kd = 6
            · have f6 : (y.kd == 6) = true := by simp [hk6]
              clear hk6
              have hq : ((swA y.b root).1 == (swA y.b root).1) = true := by simp
              have HSB : Hid (wr.heap.size ≠ sb) := by show wr.heap.size ≠ sb; omega
              go_wp2_with fail
              have D0 := hSt.d.grown0 (grown_drew _)
              have R0 := hSt.r.grown0 (grown_drew _)
              have hwd : w2.grownBy w2.drew none := grown_drew _
              have ABR : Hid (wr.heap.size < w2.heap.size ∧ wr.heap.size ≠ bm ∧ wr.heap.size ≠ rb) := HAB
              go_region_held3 (fun w' => w'.cell? ⟨wr.heap.size, 3, none⟩ = some (.slice y.ba y.b.length y.bc))
                (first
                  | exact grown_cell hwd a3
                  | exact k40
                  | exact k30)
                ((first
                  | (go_at_call 19
                     refine (d_swap _ D0 _ y.b (hown2.1.grown0 hwd)).mono ?_
                     rintro r w3 ⟨Na, rfl, hDa, hNa, hga⟩
                     have hRa := R0.grown hga (fun e => hSt.n1 (by cases e; rfl)) (fun k hk => by cases hk; exact hSt.n4)
                     have k30 := hga.cell (grown_cell hwd a3) (fun e => HSB.out (by cases e; rfl))
                     have hBa := ((hyB.grown0 hwd).grown hga hyBs.out))
                  | (go_at_call 20
                     refine (r_swap _ hRa _ y.b hBa).mono ?_
                     rintro r w4 ⟨Mb, rfl, hRb, hMb, hgb⟩
                     have hDb := hDa.grown hgb (fun e => hSt.n1 (by cases e; rfl)) (fun e => hSt.n2 (by cases e; rfl)) (fun k hk => by cases hk; exact fun e => or_not hSt.n3 hSt.r.rbl (hNa _ e))
                     have k40 := hgb.cell k30 (fun e => ABR.out.2.2 (by cases e; rfl)))))
              go_wp2_with fail
              go_meet
              case rel =>
                obtain ⟨z1, z2, z3, z4, z5⟩ := St.after_swap hSt hOff hoc ho2 hgw2 hDb hNa hga hRb hMb hgb
                exact ⟨sb, bm, rb, Na, Mb, l, rl, (swA y.b root).2, rfl, rfl, rfl, z1, z2, z3, z4, z5⟩
            have f6 : (y.kd == 6) = false := by simp [hk6]
            clear hk6
            by_cases hk7 : y.kd = 7
            · have f7 : (y.kd == 7) = true := by simp [hk7]
              clear hk7
              go_wp2_with fail
              refine (power_any w2 hSt.d y.ka y.kc y.k hyW.2.2.2.2).mono ?_
              rintro r w3 ⟨sx, bx, lx, rfl, hsx, hbx, hDx, hEx, hg3⟩
              go_wp2_with fail
              refine (alike_true w3 (hSt.d.grown0 hg3) (hSt.r.grown0 hg3) hSt.e).mono ?_
              rintro r w4 ⟨rfl, hg4⟩
              have hg24 := grown_none hg3 hg4
              have a4' := grown_cell hg24 a4
              go_wp2_with fail
              refine (rpower_any w4 (hSt.r.grown0 hg24) y.ka y.kc y.k (hyW.2.2.2.2.grown0 hg24)).mono ?_
              rintro r w5 ⟨ob, lo, rfl, hob, hRo, hEo, hg5⟩
              have hg25 := grown_none hg24 hg5
              go_wp2_with fail
              go_meet
              case rel =>
                have s3 := hg3.size
                have s4 := hg4.size
                have s5 := hg5.size
                have x1 := hDx.sbl
                have x2 := hDx.bml
                have sw := hgw2.size
                exact ⟨sx, bx, ob, _, _, lx, lo, root, rfl, rfl, rfl, ⟨(hDx.low.grown0 hg4).grown0 hg5, hRo, by rw [hEx, hEo]; exact pow_abs hSt.e, by omega, by omega, fun e => by have := e.2; omega, fun e => by have := e.1; omega, fun e => by have := e.1; omega, by omega, by omega, by omega⟩, ⟨by omega, by omega, by omega, fun e => by have := e.1.1; omega, fun e => by have := e.1; omega⟩, hoc.grown hg25 (by simp) ho2, grown_none hgw2 hg25, by omega⟩
            have f7 : (y.kd == 7) = false := by simp [hk7]
            clear hk7
            go_wp2_with fail
            go_meet
            case rel => exact ⟨sb, bm, rb, N, M, l, rl, root, rfl, rfl, rfl, hSt, hOff, hoc, hgw2, ho2⟩
          case rest =>
            obtain ⟨sb', bm', rb', N', M', l', rl', root', rfl, rfl, rfl, hSt', hOff', hoc', hgwc, hogc⟩ := hcut
            have hlen1 : y.b.length ≤ 1100 := by omega
            have hWog : W.heap.size ≤ og := by have := hgw.size; omega
            go_wp2_with fail
            go_loopw [13] (fun i wr2 => ∃ k : Nat, k ≤ y.b.length ∧ i = .int .i64 k ∧ St W wr2 sb' bm' rb' N' M' l' rl' root' ∧ OwnC wr2 (.slice oa y.b.length oc) y.b.length og ∧ W.grownBy wr2 none ∧ og < wr2.heap.size)
              (fun i _ => y.b.length - (intOf i).toNat)
            case atStart => exact ⟨0, Nat.zero_le _, rfl, hSt', hoc', hgwc, hogc⟩
            case round =>
              obtain ⟨k, hk, rfl, hSt2, hoc2, hgw3, hog3⟩ := hrel
              by_cases hkl : k < y.b.length
              · have hdk : decide ((k : Int) < (y.b.length : Int)) = true := by simp; omega
                rcases hoc2.1 with h0 | ⟨oc3, e3⟩
                · omega
                · cases e3
                  obtain ⟨⟨z, hz⟩, hfz⟩ := hoc2.2 k hkl
                  have hset := fun z2 => hoc2.set hkl z2
                  go_wp2
                  go_roundw
                  case rel => exact ⟨k + 1, by omega, by go_num, hSt2.off (grown_setCell _ ⟨og, k, none⟩ _) hOff', hset _, grown_new hgw3 (grown_setCell _ ⟨og, k, none⟩ _) hWog, by simpa using hog3⟩
                  case measure => simp [intOf]; omega
              · have hdk : decide ((k : Int) < (y.b.length : Int)) = false := by simp; omega
                go_wp2_with fail
                refine (alike_true _ hSt2.d hSt2.r hSt2.e).mono ?_
                rintro r w4 ⟨rfl, hg4⟩
                go_wp2
                go_roundw
                case rel => exact ⟨j + 1, sb', bm', rb', N', M', l', rl', root', by omega, rfl, rfl, by go_num, hSt2.grown0 hg4, grown_none hgw3 hg4⟩
                case measure => simp [intOf]; omega
      · have hdj2 : decide ((j : Int) < 180) = false := by simp; omega
        go_wp2_with fail
        refine (alive_any wr).mono ?_
        rintro r w3 ⟨rfl, hg3⟩
        go_wp2
        go_ret
        exact ⟨rfl, grown_below (grown_none hgw hg3)⟩
    · have hdj : decide ((j : Int) < (xs.length : Int)) = false := by simp; omega
      go_wp2_with fail
      refine (alive_any wr).mono ?_
      rintro r w3 ⟨rfl, hg3⟩
      go_wp2
      go_ret
      exact ⟨rfl, grown_below (grown_none hgw hg3)⟩
end Go.Proofs.Ytmhpbemfejkdaaa
