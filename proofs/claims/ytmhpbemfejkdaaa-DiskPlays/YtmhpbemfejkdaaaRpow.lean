/- What the document's disk does: Power. -/
import Derived.Test.YtmhpbemfejkdaaaRrem
import Derived.Test.YtmhpbemfejkdaaaPiew
import Derived.Maps.AppendAt
import Derived.Deep.CutBlock
namespace Go.Proofs.Ytmhpbemfejkdaaa
open Go.RowKit Go.IntWalk Go.Maps Go.Sort
set_option linter.unusedVariables false
set_option linter.unusedSimpArgs false

/-- 'append(b, xs...)' at a step of a region that draws its order. -/
theorem step_append_bytes {ops : Array Oper} {o : Oper} {a : Act} {w : World} {K : Act → World → Prop} {Q : Exit → Act → World → Prop} {E : Prop} (hgd : o.guard = none) (sl x : Operand) (hop : o.op = Op.call { callee := Callee.builtin Builtin.append, args := #[sl, x], argTypes := #[27, 27] })
    (v sv : Value) (hs : a.eval sl = v) (hx : a.eval x = sv) (base n₀ k : Nat) (xs zs : List Int) (hown : w.ownsRow base 5 1 v k (xs.map (Value.int .u8))) (hz : Bts n₀ w sv zs) (b1 : k + zs.length ≤ 140737488355328) (b3 : base ≤ w.heap.size)
    (hK : ∀ v' w', w'.ownsRow base 5 1 v' (k + zs.length) ((xs ++ zs).map (Value.int .u8)) → w.grownBy w' v.ownBlock → K (a.put o.dst v') w') :
    if Region.wanted o (yielded ops a.tmps) = true then Oper.wp Try.prog o a w K Q else E := by
  have hw : Region.wanted o (yielded ops a.tmps) = true := by simp [Region.wanted, hgd]
  rw [if_pos hw]
  exact wp_append_bytes sl x hop v sv hs hx base n₀ k xs zs hown hz b1 b3 hK
/-- New since w, and not this one. -/
def Pq (w : World) (ob i : Nat) : Prop := w.heap.size ≤ i ∧ i ≠ ob
/-- 'append(out, x)' of one segment at a step of a region that draws its order, with where the new slice lies. -/
theorem step_append_one {ops : Array Oper} {o : Oper} {a : Act} {w : World} {K : Act → World → Prop} {Q : Exit → Act → World → Prop} {E : Prop} (hgd : o.guard = none) (sl y : Operand) (hop : o.op = Op.call { callee := Callee.builtin Builtin.append, args := #[sl, y], argTypes := #[26, 26] })
    (base gb : Nat) (v : Value) (l : List Sg) (x : Sg) (sa : Option Addr) (sn sc : Nat) (hv : x.v = .slice sa sn sc) (hs : a.eval sl = v) (hy : a.eval y = .slice (some ⟨gb, 0, none⟩) 1 1) (hown : w.ownsRow base 64 3 v l.length (rows l))
    (hc : ∀ j u, x.row[j]? = some u → w.cell? ⟨gb, j, none⟩ = some u) (b1 : l.length ≤ 1000) (b3 : base ≤ w.heap.size)
    (hK : ∀ v' w', w'.ownsRow base 64 3 v' (l ++ [x]).length (rows (l ++ [x])) → w.grownBy w' v.ownBlock → (v'.ownBlock = v.ownBlock ∨ v'.ownBlock = some w.heap.size) → K (a.put o.dst v') w') :
    if Region.wanted o (yielded ops a.tmps) = true then Oper.wp Try.prog o a w K Q else E := by
  have hw : Region.wanted o (yielded ops a.tmps) = true := by simp [Region.wanted, hgd]
  rw [if_pos hw]
  obtain ⟨i0, hi, hz0, hz1, hz2⟩ := info_parts Try.info64
  obtain ⟨v', w', hrun, h1, h2, _, h4⟩ := run_append_own_at (P := Try.prog) w base 26 o.type 64 i0 (.agg #[.int .i64 0, .slice none 0 0, .int .i64 0]) 3 40 Try.underlying26 hi hz0 hz1 hz2 rfl (by decide) v l.length (rows l) hown ⟨gb, 0, none⟩ 1 1 x.row rfl (fun j u hj => by
      have hadd : (⟨gb, 0, none⟩ : Addr).add j = ⟨gb, 0 + j, none⟩ := by unfold Addr.add; split <;> simp_all
      rw [hadd, Nat.zero_add]
      exact hc j u hj) (fun u hu => by
      simp only [Sg.row, hv, List.mem_cons, List.not_mem_nil, or_false] at hu
      rcases hu with rfl | rfl | rfl <;> rfl) (by unfold maxLen; omega) (by omega) b3
  unfold Oper.wp
  simp [execOp, hop, resolve, invoke, builtin, hs, hy, hrun, Result.andThen]
  exact hK v' w' (by rw [rows_append, rows_one, List.length_append]; exact h1) h2 h4
/-- New since w, neither block ob nor the row that v owns. -/
def N3 (w : World) (ob : Nat) (v : Value) (i : Nat) : Prop := w.heap.size ≤ i ∧ i ≠ ob ∧ some i ≠ v.ownBlock
/-- The disk that Power makes, under way: v is its slice of segments, a row of the call's own. -/
structure Out (w wr : World) (ob : Nat) (v : Value) (l : List Sg) (root : List Int) : Prop where
  c0 : wr.cell? ⟨ob, 0, none⟩ = some v
  own : wr.ownsRow (ob + 1) 64 3 v l.length (rows l)
  c1 : ∃ rv, wr.cell? ⟨ob, 1, none⟩ = some rv ∧ Btx (N3 w ob v) wr rv root
  f0 : wr.frozen? ⟨ob, 0, none⟩ = false
  f1 : wr.frozen? ⟨ob, 1, none⟩ = false
  seg : ∀ y ∈ l, 0 ≤ y.n ∧ y.n < 9223372036854775808 ∧ y.b.length ≤ 1024 ∧ 0 ≤ y.s ∧ y.s ≤ y.b.length ∧ Btx (N3 w ob v) wr y.v y.b
  up : Up l
  len : l.length ≤ 128
  rl : root.length ≤ 1024
  hob : w.heap.size ≤ ob
theorem Out.obl {w wr : World} {ob : Nat} {v : Value} {l : List Sg} {root : List Int} (h : Out w wr ob v l root) : ob < wr.heap.size := World.block_lt_of_cell? wr _ h.c0
theorem Out.rsk {w wr : World} {ob : Nat} {v : Value} {l : List Sg} {root : List Int} (h : Out w wr ob v l root) : Rsk wr ob (Pq w ob) l root := by
  have hob := h.hob
  obtain ⟨rv, c1, hr⟩ := h.c1
  exact ⟨⟨v, h.c0, (Rws.of_own h.own).mono fun k hk => ⟨by omega, by omega⟩⟩, ⟨rv, c1, hr.mono fun k hk => ⟨hk.1, hk.2.1⟩⟩, h.f0, h.f1, fun e => e.2 rfl, h.up, h.len, fun y hy => by
    obtain ⟨a1, a2, a3, a4, a5, a6⟩ := h.seg y hy
    exact ⟨a1, a2, a3, a4, a5, a6.mono fun k hk => ⟨hk.1, hk.2.1⟩⟩, h.rl⟩
theorem Out.grown0 {w wr wr' : World} {ob : Nat} {v : Value} {l : List Sg} {root : List Int} (h : Out w wr ob v l root) (hg : wr.grownBy wr' none) : Out w wr' ob v l root := by
  obtain ⟨rv, c1, hr⟩ := h.c1
  exact ⟨grown_cell hg h.c0, h.own.kept hg (by
    cases hob : Value.ownBlock v with
    | none => exact .inl rfl
    | some k => exact .inr (by simp)), ⟨rv, grown_cell hg c1, hr.grown hg (by simp)⟩, (grown_frozen hg h.obl).trans h.f0, (grown_frozen hg h.obl).trans h.f1, fun y hy => by
    obtain ⟨a1, a2, a3, a4, a5, a6⟩ := h.seg y hy
    exact ⟨a1, a2, a3, a4, a5, a6.grown hg (by simp)⟩, h.up, h.len, h.rl, h.hob⟩
theorem Out.step {w W w3 : World} {ob : Nat} {v v' : Value} {l : List Sg} {root : List Int} (h : Out w W ob v l root) (x : Sg) (hr3 : w3.ownsRow (ob + 1) 64 3 v' (l ++ [x]).length (rows (l ++ [x]))) (hg3 : W.grownBy w3 v.ownBlock) (hloc : v'.ownBlock = v.ownBlock ∨ v'.ownBlock = some W.heap.size)
    (hx : 0 ≤ x.n ∧ x.n < 9223372036854775808 ∧ x.b.length ≤ 1024 ∧ 0 ≤ x.s ∧ x.s ≤ x.b.length ∧ Btx (N3 w ob v) W x.v x.b) (hup : ∀ y ∈ l, y.n < x.n) (hlen : l.length < 128) :
    Out w (w3.setCell ⟨ob, 0, none⟩ v') ob v' (l ++ [x]) root ∧ w3.cell? ⟨ob, 0, none⟩ = some v ∧ w3.frozen? ⟨ob, 0, none⟩ = false := by
  obtain ⟨rv, c1, hr⟩ := h.c1
  have hg4 := grown_setCell w3 ⟨ob, 0, none⟩ v'
  have hobl := h.obl
  have hne : some ob ≠ v.ownBlock := fun e => by have := (h.own.lt ob e.symm).1; omega
  have c03 := hg3.cell h.c0 hne
  have c13 := hg3.cell c1 hne
  have f03 := (World.frozen?_of_block (a := ⟨ob, 0, none⟩) (hg3.block ob hobl hne)).trans h.f0
  have f13 := (World.frozen?_of_block (a := ⟨ob, 1, none⟩) (hg3.block ob hobl hne)).trans h.f1
  have carry : ∀ {u : Value} {zs : List Int}, Btx (N3 w ob v) W u zs → Btx (N3 w ob v') (w3.setCell ⟨ob, 0, none⟩ v') u zs := fun {u zs} hb => by
    have h1 := hb.low
    have h2 := h1.grown hg3 fun k hk e => e.1.2.2 hk.symm
    have h3 := h2.grown hg4 fun k hk e => by cases hk; exact e.1.2.1 rfl
    exact h3.mono fun k hk => ⟨hk.1.1, hk.1.2.1, fun e => by
      rcases hloc with e2 | e2
      · rw [e2] at e; exact hk.1.2.2 e
      · rw [e2] at e
        have := hk.2
        cases e
        omega⟩
  have hne' : some ob ≠ v'.ownBlock := fun e => by have := (hr3.lt ob e.symm).1; omega
  refine ⟨⟨?_, hr3.kept hg4 (.inr (fun e => hne' e.symm)), ⟨rv, ?_, carry hr⟩, ?_, ?_, fun y hy => ?_, ?_, by simp; omega, h.rl, h.hob⟩, c03, f03⟩
  · go_simp
  · go_simp
  · go_simp
  · go_simp
  · rcases List.mem_append.1 hy with hy | hy
    · obtain ⟨a1, a2, a3, a4, a5, a6⟩ := h.seg y hy
      exact ⟨a1, a2, a3, a4, a5, carry a6⟩
    · obtain rfl : y = x := by simpa using hy
      obtain ⟨a1, a2, a3, a4, a5, a6⟩ := hx
      exact ⟨a1, a2, a3, a4, a5, carry a6⟩
  · exact List.pairwise_append.2 ⟨h.up, by simp, fun y hy z hz => by
      obtain rfl : z = x := by simpa using hz
      exact hup y hy⟩
set_option maxRecDepth 100000 in
set_option maxHeartbeats 4000000 in
/-- belfryref03.Power. -/
theorem rpower_any (w : World) {rb : Nat} {N : Nat → Prop} {rl : List Sg} {root : List Int} (h : Rsk w rb N rl root) (ka : Option Addr) (kcap : Nat) (ks : List Int) (hk : Ins w.heap.size w (.slice ka ks.length kcap) ks) :
    Calls Try.prog 23 #[.pointer (some ⟨rb, 0, none⟩), .slice ka ks.length kcap] w fun r w' => ∃ ob l2, r = .returned (.pointer (some ⟨ob, 0, none⟩)) ∧ w.heap.size ≤ ob ∧ Rsk w' ob (Pq w ob) l2 root ∧ l2.map Sg.abs = powS ks rl ∧ w.grownBy w' none := by
  obtain ⟨sv, c0, hs⟩ := h.c0
  obtain ⟨a, cap, rfl⟩ := hs.shape
  obtain ⟨rv, c1, hrv⟩ := h.c1
  obtain ⟨ra, rcap, rfl⟩ := hrv.1.shape
  have hlen := h.len
  have hrl := h.rl
  have hgA := World.grownBy_alloc w (.cells #[] 5) none
  have c1a := grown_cell hgA c1
  go_enter Try.func23, Try.ntmps23
  go_wp2_with (at_builtin; go_must (refine wpList_append_bts _ rfl (.tmp 9) (.tmp 13) rfl w.heap.size w.heap.size _ _ _ [] root rfl rfl (lit_none w _ (Nat.le_refl _)) (hrv.1.below ((Below.refl _ _).alloc (Nat.le_refl _) _)) (by omega) (by simp) ?_); intro v1 w1 hr1 hg1; have hg01 : w.grownBy w1 none := hgA.andThen hg1 (fun j hj => .inl (by cases hj; exact Nat.le_refl _)); have hb1 := Btx.of_own hr1 (by simpa using hrv.1.2); obtain ⟨a1, cp1, hv1⟩ := hb1.1.shape; rw [List.nil_append] at hv1 hb1; subst hv1)
  have hg2 := World.grownBy_alloc w1 (.cells #[.slice none 0 0, .slice a1 root.length cp1] 29) none
  have hs1 := hg01.size
  have hO : Out w (w1.alloc (.cells #[.slice none 0 0, .slice a1 root.length cp1] 29)) w1.heap.size (.slice none 0 0) [] root := by
    refine ⟨by simp, ⟨rfl, .inl ⟨rfl, rfl⟩⟩, ⟨_, by simp, ((hb1.low.grown hg2 (by simp)).mono fun k hk => ⟨hk.1, by omega, by simp [Value.ownBlock]⟩)⟩, by simp, by simp, by simp, List.Pairwise.nil, by simp, hrl, hs1⟩
  have hg02 := grown_none hg01 hg2
  generalize w1.alloc (.cells #[.slice none 0 0, .slice a1 root.length cp1] 29) = w2 at *
  generalize w1.heap.size = ob at *
  clear hb1 hr1 c1a hrv hg1 hg2 hgA
  go_loopw [6] (fun i wr => ∃ (j : Nat) (l2 : List Sg) (v : Value), j ≤ rl.length ∧ i = .int .i64 j ∧ Out w wr ob v l2 root ∧ l2.map Sg.abs = powN ks rl j ∧ w.grownBy wr none)
    (fun i _ => rl.length - (intOf i).toNat)
  case atStart => exact ⟨0, [], _, by omega, rfl, hO, rfl, hg02⟩
  case round =>
    obtain ⟨j, l2, v, hj, rfl, hOut, hpow, hgw⟩ := hrel
    have c0r := grown_cell hgw c0
    by_cases hjl : j < rl.length
    · have hdj : decide ((j : Int) < (rl.length : Int)) = true := by simp; omega
      obtain ⟨x, hx⟩ : ∃ x, rl[j]? = some x := ⟨_, List.getElem?_eq_getElem hjl⟩
      have hm := List.mem_of_getElem? hx
      have hseg := h.seg x hm
      obtain ⟨b, off, rfl, hNb, hbl, d0, d1, d2⟩ := hs.at hx
      obtain ⟨xa, xc, hxv⟩ := hseg.2.2.2.2.2.1.shape
      rw [hxv] at d1
      have d0 := grown_cell hgw d0
      have d1 := grown_cell hgw d1
      have d2 := grown_cell hgw d2
      have hbx : Btx N w (.slice xa x.b.length xc) x.b := hxv ▸ hseg.2.2.2.2.2
      have hpl := pn_lo (k := ks[j]?) hseg.2.2.2.1 hseg.2.2.2.2.1
      obtain ⟨va0, vc0, hvv⟩ := (Rws.of_own hOut.own).shape
      subst hvv
      have hup : ∀ y ∈ l2, y.n < x.n := fun y hy => by
        obtain ⟨i, z, hi, hz, e⟩ := powN_mem (hpow ▸ List.mem_map.2 ⟨y, hy, rfl⟩)
        have e' : y.n = z.n := e
        rw [e']
        have hil : i < rl.length := by omega
        have h1 := List.pairwise_iff_getElem.1 h.up i j hil hjl hi
        rw [List.getElem?_eq_getElem hil] at hz
        rw [List.getElem?_eq_getElem hjl] at hx
        cases hz
        cases hx
        exact h1
      have stay : pn ks[j]? x ≤ 0 → l2.map Sg.abs = powN ks rl (j + 1) := fun hle => by
        rw [powN_succ hx, pwItem, if_neg (by omega), List.append_nil]
        exact hpow
      have MORE : Hid (∀ nn, nn = pn ks[j]? x → 0 < nn → powN ks rl (j + 1) = l2.map Sg.abs ++ [(x.n, x.b.take nn.toNat, nn)]) := fun nn hn hp => by
        rw [powN_succ hx, pwItem, ← hn, if_pos hp, hpow]
      have HL2 : Hid (l2.length < 128) := by
        show l2.length < 128
        have h1 := congrArg List.length hpow
        have h2 := powN_len ks rl j
        rw [List.length_map] at h1
        omega
      have HUP : Hid (∀ y ∈ l2, y.n < x.n) := hup
      have hgX := World.grownBy_alloc wr (.cells #[.int .i64 x.n, .slice xa x.b.length xc, .int .i64 x.s] 64) none
      have y0 : (wr.alloc (.cells #[.int .i64 x.n, .slice xa x.b.length xc, .int .i64 x.s] 64)).cell? ⟨wr.heap.size, 0, none⟩ = some (.int .i64 x.n) := by simp
      have y1 : (wr.alloc (.cells #[.int .i64 x.n, .slice xa x.b.length xc, .int .i64 x.s] 64)).cell? ⟨wr.heap.size, 1, none⟩ = some (.slice xa x.b.length xc) := by simp
      have y2 : (wr.alloc (.cells #[.int .i64 x.n, .slice xa x.b.length xc, .int .i64 x.s] 64)).cell? ⟨wr.heap.size, 2, none⟩ = some (.int .i64 x.s) := by simp
      clear hxv hm hpow hup
      by_cases hjk : j < ks.length
      · have hdk : decide ((j : Int) < (ks.length : Int)) = true := by simp; omega
        obtain ⟨kb, ko, rfl, hkb, hkc⟩ := hk.at hjk
        have hkz := hk.2 (ks[j]?.getD 0) (by simp [hjk])
        obtain ⟨kk, hkk⟩ : ∃ kk, kk = ks[j]?.getD 0 := ⟨_, rfl⟩
        rw [← hkk] at hkc hkz
        have hks : Hid (ks[j]? = some kk) := by
          show ks[j]? = some kk
          rw [hkk, List.getElem?_eq_getElem hjk]
          rfl
        clear hkk
        have hkc2 := grown_cell (grown_none hgw hgX) hkc
        obtain ⟨c, hc⟩ : ∃ c, Hid (c = cr kk (x.b.length - x.s)) := ⟨_, rfl⟩
        have hclo : 0 ≤ c := by rw [hc.out]; exact cr_lo _ _ (by omega)
        have hchi : c ≤ x.b.length - x.s := by rw [hc.out]; exact cr_hi _ _ (by omega)
        have hw1 : IntKind.i64.wrap ((x.b.length : Int) - x.s) = x.b.length - x.s := by rw [IntKind.wrap_i64]; omega
        have hw3 : IntKind.i64.wrap ((x.b.length : Int) - x.s + 1) = x.b.length - x.s + 1 := by rw [IntKind.wrap_i64]; omega
        have hw2 : IntKind.i64.wrap (x.s + c) = x.s + c := by rw [IntKind.wrap_i64]; omega
        obtain ⟨nn, hne⟩ : ∃ nn, nn = x.s + c := ⟨_, rfl⟩
        have hnn : Hid (nn = pn ks[j]? x) := by
          show nn = pn ks[j]? x
          rw [hks.out, hne, hc.out]
          rfl
        replace hw2 : IntKind.i64.wrap (x.s + c) = nn := by rw [hw2, hne]
        have hnlo : x.s ≤ nn := by omega
        have hnhi : nn ≤ x.b.length := by omega
        have hc' : Hid (c = cr kk ((x.b.length : Int) - x.s + 1 - 1)) := by
          show c = cr kk ((x.b.length : Int) - x.s + 1 - 1)
          rw [hc.out]
          congr 1
          omega
        clear hne
        go_wp2_with fail
        go_region_held3 (fun w' => w'.cell? ⟨kb, ko + j, none⟩ = some (.int .i64 kk) ∧ w'.cell? ⟨wr.heap.size, 1, none⟩ = some (.slice xa x.b.length xc))
          (first | go_keep | assumption)
          ((go_at_call 28
            refine (pick_any kk _ c hc' hkz.1 hkz.2 (by omega) (by omega) _).mono ?_
            rintro r w5 ⟨rfl, rfl⟩))
        have hg8 : wr.grownBy (wr.alloc (.cells #[.int .i64 x.n, .slice xa x.b.length xc, .int .i64 x.s] 64)).drew none := grown_none hgX (grown_drew _)
        have x0 := grown_cell (grown_drew _) y0
        have x1 := grown_cell (grown_drew _) y1
        clear y0 y1 y2 hgX hkc2
        generalize (wr.alloc (.cells #[.int .i64 x.n, .slice xa x.b.length xc, .int .i64 x.s] 64)).drew = w8 at *
        by_cases hpos : 0 < nn
        · have hdp : decide (nn > 0) = true := by simpa using hpos
          have hn1 := hnn.out
          have hOut8 := hOut.grown0 hg8
          have hobl := hOut.obl
          have hob8 : Hid (ob + 1 ≤ w8.heap.size) := by show ob + 1 ≤ w8.heap.size; have := hg8.size; omega
          have hb8 := hbx.grown (grown_none hgw hg8) (by simp)
          obtain ⟨a', hcut, hb9⟩ := run_cut hb8 nn (by omega) (by omega)
          have hkl : (x.b.take nn.toNat).length = nn.toNat := by rw [List.length_take]; omega
          have HNB : Hid ((x.b.take nn.toNat).length = nn.toNat ∧ nn.toNat ≤ 1024) := ⟨hkl, by omega⟩
          have hgB : w8.grownBy (w8.alloc (.cells #[] 5)).drew none := grown_none (World.grownBy_alloc w8 _ none) (grown_drew _)
          have hlitB := (lit_none w8 w8.heap.size (Nat.le_refl _)).drew
          have BB : Hid (Bts (w8.alloc (.cells #[] 5)).drew.heap.size (w8.alloc (.cells #[] 5)).drew (.slice a' nn.toNat xc) (x.b.take nn.toNat)) := hb9.1.grown0 hgB
          have HSS : Hid (∀ w', w8.grownBy w' none → w'.cell? ⟨wr.heap.size, 0, none⟩ = some (.int .i64 x.n) ∧ w'.cell? ⟨wr.heap.size, 1, none⟩ = some (.slice xa x.b.length xc)) := fun w' hg => ⟨grown_cell hg x0, grown_cell hg x1⟩
          have o1 := (hOut8.grown0 (grown_drew _)).c0
          have o2 := (hOut8.grown0 hgB).c0
          have o2' := (hOut8.grown0 (World.grownBy_alloc w8 (.cells #[] 5) none)).c0
          have FA : Hid (∀ (v3 : Value) (w3 : World), w3.ownsRow w8.heap.size 5 1 v3 (0 + (x.b.take nn.toNat).length) (([] ++ x.b.take nn.toNat).map (Value.int .u8)) → (w8.alloc (.cells #[] 5)).drew.grownBy w3 (Value.slice (some ⟨w8.heap.size, 0, none⟩) 0 0).ownBlock →
              ∃ a3 L3 c3, v3 = .slice a3 L3 c3 ∧ w8.grownBy w3 none ∧ Btx (N3 w ob (.slice va0 l2.length vc0)) w3 (.slice a3 L3 c3) (x.b.take nn.toNat)) := fun v3 w3 hr3 hg3 => by
            have hb3 := Btx.of_own hr3 (by simpa using hb9.1.2)
            rw [List.nil_append] at hb3
            obtain ⟨a3, c3, rfl⟩ := hb3.1.shape
            have hg83 : w8.grownBy w3 none := hgB.andThen hg3 fun k hk => .inl (Nat.le_of_eq (by simpa [Value.ownBlock] using hk))
            have hs8 := hg8.size
            have hsw := hgw.size
            exact ⟨a3, _, c3, rfl, hg83, hb3.mono fun k hk => ⟨by omega, by omega, fun e => by have := (hOut.own.lt k e.symm).2; omega⟩⟩
          have FE : Hid (∀ a3 L3 c3 (w3 : World), w8.grownBy w3 none → Btx (N3 w ob (.slice va0 l2.length vc0)) w3 (.slice a3 L3 c3) (x.b.take nn.toNat) → ∀ (v5 : Value) (w5 : World),
              w5.ownsRow (ob + 1) 64 3 v5 (l2 ++ [(⟨x.n, .slice a3 L3 c3, x.b.take nn.toNat, nn⟩ : Sg)]).length (rows (l2 ++ [(⟨x.n, .slice a3 L3 c3, x.b.take nn.toNat, nn⟩ : Sg)])) → (w3.alloc (.cells #[.int .i64 x.n, .slice a3 L3 c3, .int .i64 nn] 64)).grownBy w5 (Value.slice va0 l2.length vc0).ownBlock →
              (v5.ownBlock = (Value.slice va0 l2.length vc0).ownBlock ∨ v5.ownBlock = some (w3.alloc (.cells #[.int .i64 x.n, .slice a3 L3 c3, .int .i64 nn] 64)).heap.size) →
              ∃ va vl vc, v5 = .slice va vl vc ∧ w5.cell? ⟨wr.heap.size, 0, none⟩ = some (.int .i64 x.n) ∧ w5.cell? ⟨wr.heap.size, 1, none⟩ = some (.slice xa x.b.length xc) ∧
                (w5.setCell ⟨ob, 0, none⟩ (.slice va vl vc)).cell? ⟨wr.heap.size, 0, none⟩ = some (.int .i64 x.n) ∧ (w5.setCell ⟨ob, 0, none⟩ (.slice va vl vc)).cell? ⟨wr.heap.size, 1, none⟩ = some (.slice xa x.b.length xc) ∧
                w5.cell? ⟨ob, 0, none⟩ = some (.slice va0 l2.length vc0) ∧ w5.frozen? ⟨ob, 0, none⟩ = false ∧ Out w (w5.setCell ⟨ob, 0, none⟩ (.slice va vl vc)) ob (.slice va vl vc) (l2 ++ [⟨x.n, .slice a3 L3 c3, x.b.take nn.toNat, nn⟩]) root ∧ w.grownBy (w5.setCell ⟨ob, 0, none⟩ (.slice va vl vc)) none) := fun a3 L3 c3 w3 hg83 hB3 v5 w5 hr5 hg5 hloc => by
            have hgd := World.grownBy_alloc w3 (.cells #[.int .i64 x.n, .slice a3 L3 c3, .int .i64 nn] 64) none
            have hg8d := grown_none hg83 hgd
            have hn2 := hnn.out
            have hk2 := HNB.out
            obtain ⟨hO5, c05, f05⟩ := (hOut8.grown0 hg8d).step ⟨x.n, .slice a3 L3 c3, x.b.take nn.toNat, nn⟩ hr5 hg5 hloc ⟨hseg.1, hseg.2.1, by dsimp only; omega, by dsimp only; omega, by dsimp only; omega, hB3.grown hgd (by simp)⟩ HUP.out HL2.out
            obtain ⟨va, vc, hv⟩ := (Rws.of_own hr5).shape
            have hnw : some wr.heap.size ≠ (Value.slice va0 l2.length vc0).ownBlock := fun e => by have := (hOut.own.lt _ e.symm).2; omega
            have hnb : some wr.heap.size ≠ some ob := fun e => by cases e; omega
            obtain ⟨z0, z1⟩ := HSS.out _ hg8d
            have g0 := hg5.cell z0 hnw
            have g1 := hg5.cell z1 hnw
            have hg5s := grown_setCell w5 ⟨ob, 0, none⟩ v5
            have hgw5 : w.grownBy w5 none := (grown_none (grown_none hgw hg8) hg8d).andThen hg5 fun k hk => .inl (by have := (hOut.own.lt k hk).1; omega)
            rw [hv] at hO5 hg5s
            exact ⟨va, _, vc, hv, g0, g1, hg5s.cell g0 hnb, hg5s.cell g1 hnb, c05, f05, hO5, grown_new hgw5 hg5s hs1⟩
          have hPOW : Hid (∀ u : Value, (l2 ++ [(⟨x.n, u, x.b.take nn.toNat, nn⟩ : Sg)]).map Sg.abs = powN ks rl (j + 1)) := fun u => by
            rw [List.map_append, MORE.out nn hn1 hpos]
            rfl
          clear hkl hn1 hb8 hb9
          go_wp2_with fail
          refine wp_region_held_drew (S := fun w' => w'.cell? ⟨wr.heap.size, 0, none⟩ = some (.int .i64 x.n) ∧ w'.cell? ⟨wr.heap.size, 1, none⟩ = some (.slice xa x.b.length xc)) (by kernel_rfl) (by (try dsimp only); exact HSS.out _ (grown_drew _)) (fun hHeld => ?_)
          refine wpAnyH_take (i := 0) (v := ?_) rfl (by kernel_rfl) (by kernel_rfl) (by kernel_rfl) (fun _ _ _ h => h) (Or.inl ⟨by rfl, ?_⟩) (by assumption) ?_
          rotate_left
          · (intro w hSw; (try dsimp only at hSw); (try go_split_ands); go_simp; try with_reducible rfl)
          try simp only [List.getElem_toArray, List.getElem_cons_zero, List.getElem_cons_succ, Act.put, List.setIfInBounds_toArray, List.set_cons_zero, List.set_cons_succ]
          refine wpAnyH_take (i := 1) (v := ?_) rfl (by kernel_rfl) (by kernel_rfl) (by kernel_rfl) (fun _ _ _ h => h) (Or.inl ⟨by rfl, ?_⟩) (by assumption) ?_
          rotate_left
          · (intro w hSw; (try dsimp only at hSw); (try go_split_ands); go_simp; try with_reducible rfl)
          try simp only [List.getElem_toArray, List.getElem_cons_zero, List.getElem_cons_succ, Act.put, List.setIfInBounds_toArray, List.set_cons_zero, List.set_cons_succ]
          refine wpAnyH_take (i := 2) (v := ?_) rfl (by kernel_rfl) (by kernel_rfl) (by kernel_rfl) (fun _ _ _ h => h) (Or.inl ⟨by rfl, ?_⟩) (by assumption) ?_
          rotate_left
          · (intro w hSw; (try dsimp only at hSw); (try go_split_ands); go_simp; try with_reducible rfl)
          try simp only [List.getElem_toArray, List.getElem_cons_zero, List.getElem_cons_succ, Act.put, List.setIfInBounds_toArray, List.set_cons_zero, List.set_cons_succ]
          refine wpAnyH_take (i := 3) (v := ?_) rfl (by kernel_rfl) (by kernel_rfl) (by kernel_rfl) (fun _ _ _ h => h) (Or.inl ⟨by rfl, ?_⟩) (by assumption) ?_
          rotate_left
          · (intro w hSw; (try dsimp only at hSw); (try go_split_ands); go_simp; try with_reducible rfl)
          try simp only [List.getElem_toArray, List.getElem_cons_zero, List.getElem_cons_succ, Act.put, List.setIfInBounds_toArray, List.set_cons_zero, List.set_cons_succ]
          refine wpAnyH_take (i := 5) (v := ?_) rfl (by kernel_rfl) (by kernel_rfl) (by kernel_rfl) (fun _ _ _ h => h) (Or.inl ⟨by rfl, ?_⟩) (by assumption) ?_
          rotate_left
          · (intro w hSw; (try dsimp only at hSw); (try go_split_ands); go_simp; try with_reducible rfl)
          try simp only [List.getElem_toArray, List.getElem_cons_zero, List.getElem_cons_succ, Act.put, List.setIfInBounds_toArray, List.set_cons_zero, List.set_cons_succ]
          refine wpAnyH_take (i := 6) (v := ?_) rfl (by kernel_rfl) (by kernel_rfl) (by kernel_rfl) (fun _ _ _ h => h) (Or.inl ⟨by rfl, ?_⟩) (by assumption) ?_
          rotate_left
          · (intro w hSw; (try dsimp only at hSw); (try go_split_ands); go_simp; try with_reducible rfl)
          try simp only [List.getElem_toArray, List.getElem_cons_zero, List.getElem_cons_succ, Act.put, List.setIfInBounds_toArray, List.set_cons_zero, List.set_cons_succ]
          refine wpAnyH_take (i := 8) (v := ?_) rfl (by kernel_rfl) (by kernel_rfl) (by kernel_rfl) (fun _ _ _ h => h) (Or.inl ⟨by rfl, ?_⟩) (by assumption) ?_
          rotate_left
          · (intro w hSw; (try dsimp only at hSw); (try go_split_ands); go_simp; try with_reducible rfl)
          try simp only [List.getElem_toArray, List.getElem_cons_zero, List.getElem_cons_succ, Act.put, List.setIfInBounds_toArray, List.set_cons_zero, List.set_cons_succ]
          refine wpAnyH_take (i := 9) (v := ?_) rfl (by kernel_rfl) (by kernel_rfl) (by kernel_rfl) (fun _ _ _ h => h) (Or.inl ⟨by rfl, ?_⟩) (by assumption) ?_
          rotate_left
          · (intro w hSw; (try dsimp only at hSw); (try go_split_ands); go_simp; try with_reducible rfl)
          try simp only [List.getElem_toArray, List.getElem_cons_zero, List.getElem_cons_succ, Act.put, List.setIfInBounds_toArray, List.set_cons_zero, List.set_cons_succ]
          refine wpAnyH_take (i := 10) (v := ?_) rfl (by kernel_rfl) (by kernel_rfl) (by kernel_rfl) (fun _ _ _ h => h) (Or.inl ⟨by rfl, ?_⟩) (by assumption) ?_
          rotate_left
          · (intro w hSw; (try dsimp only at hSw); (try go_split_ands); go_simp; try with_reducible rfl)
          try simp only [List.getElem_toArray, List.getElem_cons_zero, List.getElem_cons_succ, Act.put, List.setIfInBounds_toArray, List.set_cons_zero, List.set_cons_succ]
          refine wpAnyH_take (i := 11) (v := ?_) rfl (by kernel_rfl) (by kernel_rfl) (by kernel_rfl) (fun _ _ _ h => h) (Or.inl ⟨by rfl, ?_⟩) (by assumption) ?_
          rotate_left
          · (intro w hSw; (try dsimp only at hSw); (try go_split_ands); go_simp; try with_reducible rfl)
          try simp only [List.getElem_toArray, List.getElem_cons_zero, List.getElem_cons_succ, Act.put, List.setIfInBounds_toArray, List.set_cons_zero, List.set_cons_succ]
          refine wpAnyH_take (i := 13) (v := ?_) rfl (by kernel_rfl) (by kernel_rfl) (by kernel_rfl) (fun _ _ _ h => h) (Or.inl ⟨by rfl, ?_⟩) (by assumption) ?_
          rotate_left
          · (intro w hSw; (try dsimp only at hSw); (try go_split_ands); go_simp; try with_reducible rfl)
          try simp only [List.getElem_toArray, List.getElem_cons_zero, List.getElem_cons_succ, Act.put, List.setIfInBounds_toArray, List.set_cons_zero, List.set_cons_succ]
          refine wpAnyH_ready (rs := [4, 7]) (by kernel_rfl) (by simp) ?_
          refine AllReadyH.cons rfl (fun K hK => ?_) (AllReadyH.cons rfl (fun K hK => ?_) (AllReadyH.nil))
          · go_simp
            refine hK.out _ _ ?_ (fun hHeld => ?_)
            · ((try dsimp only); assumption)
            clear hK K
            try simp only [List.getElem_toArray, List.getElem_cons_zero, List.getElem_cons_succ, Act.put, List.setIfInBounds_toArray, List.set_cons_zero, List.set_cons_succ]
            refine wpAnyH_ready (rs := [7]) (by kernel_rfl) (by simp) ?_
            refine AllReadyH.cons rfl (fun K hK => ?_) (AllReadyH.nil)
            go_simp
            refine hK.out _ _ ?_ (fun hHeld => ?_)
            · ((try dsimp only); exact HSS.out _ hgB)
            clear hK K
            try simp only [List.getElem_toArray, List.getElem_cons_zero, List.getElem_cons_succ, Act.put, List.setIfInBounds_toArray, List.set_cons_zero, List.set_cons_succ]
            refine wpAnyH_ready (rs := [12]) (by kernel_rfl) (by simp) ?_
            refine AllReadyH.cons rfl (fun K hK => ?_) (AllReadyH.nil)
            refine step_append_bytes (by rfl) _ _ (by rfl) _ _ (by rfl) (by rfl) w8.heap.size _ 0 [] (x.b.take nn.toNat) hlitB BB.out (by have := HNB.out; omega) hgB.size ?_
            intro v3 w3 hr3 hg3
            obtain ⟨a3, L3, c3, hv3, hg83, HB3⟩ := FA.out v3 w3 hr3 hg3
            subst hv3
            have o3 := (hOut8.grown0 hg83).c0
            have o4 := (hOut8.grown0 (grown_none hg83 (World.grownBy_alloc w3 (.cells #[.int .i64 x.n, .slice a3 L3 c3, .int .i64 nn] 64) none))).c0
            refine hK.out _ _ ?_ (fun hHeld => ?_)
            · ((try dsimp only); exact HSS.out _ hg83)
            clear hK K
            try simp only [List.getElem_toArray, List.getElem_cons_zero, List.getElem_cons_succ, Act.put, List.setIfInBounds_toArray, List.set_cons_zero, List.set_cons_succ]
            refine wpAnyH_take (i := 14) (v := ?_) rfl (by kernel_rfl) (by kernel_rfl) (by kernel_rfl) (fun _ _ _ h => h) (Or.inl ⟨by rfl, ?_⟩) (by assumption) ?_
            rotate_left
            · (intro w hSw; (try dsimp only at hSw); (try go_split_ands); go_simp; try with_reducible rfl)
            try simp only [List.getElem_toArray, List.getElem_cons_zero, List.getElem_cons_succ, Act.put, List.setIfInBounds_toArray, List.set_cons_zero, List.set_cons_succ]
            refine wpAnyH_ready (rs := [15]) (by kernel_rfl) (by simp) ?_
            refine AllReadyH.cons rfl (fun K hK => ?_) (AllReadyH.nil)
            go_simp
            refine hK.out _ _ ?_ (fun hHeld => ?_)
            · ((try dsimp only); exact HSS.out _ (grown_none hg83 (World.grownBy_alloc w3 _ none)))
            clear hK K
            try simp only [List.getElem_toArray, List.getElem_cons_zero, List.getElem_cons_succ, Act.put, List.setIfInBounds_toArray, List.set_cons_zero, List.set_cons_succ]
            refine wpAnyH_ready (rs := [16]) (by kernel_rfl) (by simp) ?_
            refine AllReadyH.cons rfl (fun K hK => ?_) (AllReadyH.nil)
            refine step_append_one (by rfl) _ _ (by rfl) (ob + 1) w3.heap.size _ l2 ⟨x.n, .slice a3 L3 c3, x.b.take nn.toNat, nn⟩ a3 L3 c3 rfl (by rfl) (by rfl) (hOut8.grown0 (grown_none hg83 (World.grownBy_alloc w3 (.cells #[.int .i64 x.n, .slice a3 L3 c3, .int .i64 nn] 64) none))).own (by intro k u hu; match k, hu with | 0, hu => (cases hu; simp) | 1, hu => (cases hu; simp) | 2, hu => (cases hu; simp) | k + 3, hu => simp [Sg.row] at hu) (by have := HL2.out; omega) (by have := hg83.size; have := hob8.out; simp; omega) ?_
            intro v5 w5 hr5 hg5 hloc5
            obtain ⟨va, vl, vc, hv5, k50, k51, k60, k61, c05, f05, hOut9, hg95⟩ := FE.out a3 L3 c3 w3 hg83 HB3 v5 w5 hr5 hg5 hloc5
            subst hv5
            refine hK.out _ _ ?_ (fun hHeld => ?_)
            · ((try dsimp only); exact ⟨k50, k51⟩)
            clear hK K
            try simp only [List.getElem_toArray, List.getElem_cons_zero, List.getElem_cons_succ, Act.put, List.setIfInBounds_toArray, List.set_cons_zero, List.set_cons_succ]
            refine wpAnyH_take (i := 17) (v := ?_) rfl (by kernel_rfl) (by kernel_rfl) (by kernel_rfl) (fun _ _ _ h => h) (Or.inl ⟨by rfl, ?_⟩) (by assumption) ?_
            rotate_left
            · (intro w hSw; (try dsimp only at hSw); (try go_split_ands); go_simp; try with_reducible rfl)
            try simp only [List.getElem_toArray, List.getElem_cons_zero, List.getElem_cons_succ, Act.put, List.setIfInBounds_toArray, List.set_cons_zero, List.set_cons_succ]
            refine wpAnyH_take (i := 18) (v := ?_) rfl (by kernel_rfl) (by kernel_rfl) (by kernel_rfl) (fun _ _ _ h => h) (Or.inl ⟨by rfl, ?_⟩) (by assumption) ?_
            rotate_left
            · (intro w hSw; (try dsimp only at hSw); (try go_split_ands); go_simp; try with_reducible rfl)
            try simp only [List.getElem_toArray, List.getElem_cons_zero, List.getElem_cons_succ, Act.put, List.setIfInBounds_toArray, List.set_cons_zero, List.set_cons_succ]
            refine wpAnyH_ready (rs := [19]) (by kernel_rfl) (by simp) ?_
            refine AllReadyH.cons rfl (fun K hK => ?_) (AllReadyH.nil)
            go_simp
            refine hK.out _ _ ?_ (fun hHeld => ?_)
            · ((try dsimp only); exact ⟨k60, k61⟩)
            clear hK K
            try simp only [List.getElem_toArray, List.getElem_cons_zero, List.getElem_cons_succ, Act.put, List.setIfInBounds_toArray, List.set_cons_zero, List.set_cons_succ]
            refine wpAnyH_done (by kernel_rfl) ?_ _
            go_wp2
            go_roundw
            case rel => exact ⟨j + 1, _, _, by omega, by go_num, hOut9, (hPOW.out _), hg95⟩
            case measure => simp [intOf]; omega
          · go_simp
            refine hK.out _ _ ?_ (fun hHeld => ?_)
            · ((try dsimp only); exact HSS.out _ hgB)
            clear hK K
            try simp only [List.getElem_toArray, List.getElem_cons_zero, List.getElem_cons_succ, Act.put, List.setIfInBounds_toArray, List.set_cons_zero, List.set_cons_succ]
            refine wpAnyH_ready (rs := [4, 12]) (by kernel_rfl) (by simp) ?_
            refine AllReadyH.cons rfl (fun K hK => ?_) (AllReadyH.cons rfl (fun K hK => ?_) (AllReadyH.nil))
            · go_simp
              refine hK.out _ _ ?_ (fun hHeld => ?_)
              · ((try dsimp only); assumption)
              clear hK K
              try simp only [List.getElem_toArray, List.getElem_cons_zero, List.getElem_cons_succ, Act.put, List.setIfInBounds_toArray, List.set_cons_zero, List.set_cons_succ]
              refine wpAnyH_ready (rs := [12]) (by kernel_rfl) (by simp) ?_
              refine AllReadyH.cons rfl (fun K hK => ?_) (AllReadyH.nil)
              refine step_append_bytes (by rfl) _ _ (by rfl) _ _ (by rfl) (by rfl) w8.heap.size _ 0 [] (x.b.take nn.toNat) hlitB BB.out (by have := HNB.out; omega) hgB.size ?_
              intro v3 w3 hr3 hg3
              obtain ⟨a3, L3, c3, hv3, hg83, HB3⟩ := FA.out v3 w3 hr3 hg3
              subst hv3
              have o3 := (hOut8.grown0 hg83).c0
              have o4 := (hOut8.grown0 (grown_none hg83 (World.grownBy_alloc w3 (.cells #[.int .i64 x.n, .slice a3 L3 c3, .int .i64 nn] 64) none))).c0
              refine hK.out _ _ ?_ (fun hHeld => ?_)
              · ((try dsimp only); exact HSS.out _ hg83)
              clear hK K
              try simp only [List.getElem_toArray, List.getElem_cons_zero, List.getElem_cons_succ, Act.put, List.setIfInBounds_toArray, List.set_cons_zero, List.set_cons_succ]
              refine wpAnyH_take (i := 14) (v := ?_) rfl (by kernel_rfl) (by kernel_rfl) (by kernel_rfl) (fun _ _ _ h => h) (Or.inl ⟨by rfl, ?_⟩) (by assumption) ?_
              rotate_left
              · (intro w hSw; (try dsimp only at hSw); (try go_split_ands); go_simp; try with_reducible rfl)
              try simp only [List.getElem_toArray, List.getElem_cons_zero, List.getElem_cons_succ, Act.put, List.setIfInBounds_toArray, List.set_cons_zero, List.set_cons_succ]
              refine wpAnyH_ready (rs := [15]) (by kernel_rfl) (by simp) ?_
              refine AllReadyH.cons rfl (fun K hK => ?_) (AllReadyH.nil)
              go_simp
              refine hK.out _ _ ?_ (fun hHeld => ?_)
              · ((try dsimp only); exact HSS.out _ (grown_none hg83 (World.grownBy_alloc w3 _ none)))
              clear hK K
              try simp only [List.getElem_toArray, List.getElem_cons_zero, List.getElem_cons_succ, Act.put, List.setIfInBounds_toArray, List.set_cons_zero, List.set_cons_succ]
              refine wpAnyH_ready (rs := [16]) (by kernel_rfl) (by simp) ?_
              refine AllReadyH.cons rfl (fun K hK => ?_) (AllReadyH.nil)
              refine step_append_one (by rfl) _ _ (by rfl) (ob + 1) w3.heap.size _ l2 ⟨x.n, .slice a3 L3 c3, x.b.take nn.toNat, nn⟩ a3 L3 c3 rfl (by rfl) (by rfl) (hOut8.grown0 (grown_none hg83 (World.grownBy_alloc w3 (.cells #[.int .i64 x.n, .slice a3 L3 c3, .int .i64 nn] 64) none))).own (by intro k u hu; match k, hu with | 0, hu => (cases hu; simp) | 1, hu => (cases hu; simp) | 2, hu => (cases hu; simp) | k + 3, hu => simp [Sg.row] at hu) (by have := HL2.out; omega) (by have := hg83.size; have := hob8.out; simp; omega) ?_
              intro v5 w5 hr5 hg5 hloc5
              obtain ⟨va, vl, vc, hv5, k50, k51, k60, k61, c05, f05, hOut9, hg95⟩ := FE.out a3 L3 c3 w3 hg83 HB3 v5 w5 hr5 hg5 hloc5
              subst hv5
              refine hK.out _ _ ?_ (fun hHeld => ?_)
              · ((try dsimp only); exact ⟨k50, k51⟩)
              clear hK K
              try simp only [List.getElem_toArray, List.getElem_cons_zero, List.getElem_cons_succ, Act.put, List.setIfInBounds_toArray, List.set_cons_zero, List.set_cons_succ]
              refine wpAnyH_take (i := 17) (v := ?_) rfl (by kernel_rfl) (by kernel_rfl) (by kernel_rfl) (fun _ _ _ h => h) (Or.inl ⟨by rfl, ?_⟩) (by assumption) ?_
              rotate_left
              · (intro w hSw; (try dsimp only at hSw); (try go_split_ands); go_simp; try with_reducible rfl)
              try simp only [List.getElem_toArray, List.getElem_cons_zero, List.getElem_cons_succ, Act.put, List.setIfInBounds_toArray, List.set_cons_zero, List.set_cons_succ]
              refine wpAnyH_take (i := 18) (v := ?_) rfl (by kernel_rfl) (by kernel_rfl) (by kernel_rfl) (fun _ _ _ h => h) (Or.inl ⟨by rfl, ?_⟩) (by assumption) ?_
              rotate_left
              · (intro w hSw; (try dsimp only at hSw); (try go_split_ands); go_simp; try with_reducible rfl)
              try simp only [List.getElem_toArray, List.getElem_cons_zero, List.getElem_cons_succ, Act.put, List.setIfInBounds_toArray, List.set_cons_zero, List.set_cons_succ]
              refine wpAnyH_ready (rs := [19]) (by kernel_rfl) (by simp) ?_
              refine AllReadyH.cons rfl (fun K hK => ?_) (AllReadyH.nil)
              go_simp
              refine hK.out _ _ ?_ (fun hHeld => ?_)
              · ((try dsimp only); exact ⟨k60, k61⟩)
              clear hK K
              try simp only [List.getElem_toArray, List.getElem_cons_zero, List.getElem_cons_succ, Act.put, List.setIfInBounds_toArray, List.set_cons_zero, List.set_cons_succ]
              refine wpAnyH_done (by kernel_rfl) ?_ _
              go_wp2
              go_roundw
              case rel => exact ⟨j + 1, _, _, by omega, by go_num, hOut9, (hPOW.out _), hg95⟩
              case measure => simp [intOf]; omega
            · refine step_append_bytes (by rfl) _ _ (by rfl) _ _ (by rfl) (by rfl) w8.heap.size _ 0 [] (x.b.take nn.toNat) hlitB BB.out (by have := HNB.out; omega) hgB.size ?_
              intro v3 w3 hr3 hg3
              obtain ⟨a3, L3, c3, hv3, hg83, HB3⟩ := FA.out v3 w3 hr3 hg3
              subst hv3
              have o3 := (hOut8.grown0 hg83).c0
              have o4 := (hOut8.grown0 (grown_none hg83 (World.grownBy_alloc w3 (.cells #[.int .i64 x.n, .slice a3 L3 c3, .int .i64 nn] 64) none))).c0
              refine hK.out _ _ ?_ (fun hHeld => ?_)
              · ((try dsimp only); exact HSS.out _ hg83)
              clear hK K
              try simp only [List.getElem_toArray, List.getElem_cons_zero, List.getElem_cons_succ, Act.put, List.setIfInBounds_toArray, List.set_cons_zero, List.set_cons_succ]
              refine wpAnyH_take (i := 14) (v := ?_) rfl (by kernel_rfl) (by kernel_rfl) (by kernel_rfl) (fun _ _ _ h => h) (Or.inl ⟨by rfl, ?_⟩) (by assumption) ?_
              rotate_left
              · (intro w hSw; (try dsimp only at hSw); (try go_split_ands); go_simp; try with_reducible rfl)
              try simp only [List.getElem_toArray, List.getElem_cons_zero, List.getElem_cons_succ, Act.put, List.setIfInBounds_toArray, List.set_cons_zero, List.set_cons_succ]
              refine wpAnyH_ready (rs := [4, 15]) (by kernel_rfl) (by simp) ?_
              refine AllReadyH.cons rfl (fun K hK => ?_) (AllReadyH.cons rfl (fun K hK => ?_) (AllReadyH.nil))
              · go_simp
                refine hK.out _ _ ?_ (fun hHeld => ?_)
                · ((try dsimp only); assumption)
                clear hK K
                try simp only [List.getElem_toArray, List.getElem_cons_zero, List.getElem_cons_succ, Act.put, List.setIfInBounds_toArray, List.set_cons_zero, List.set_cons_succ]
                refine wpAnyH_ready (rs := [15]) (by kernel_rfl) (by simp) ?_
                refine AllReadyH.cons rfl (fun K hK => ?_) (AllReadyH.nil)
                go_simp
                refine hK.out _ _ ?_ (fun hHeld => ?_)
                · ((try dsimp only); exact HSS.out _ (grown_none hg83 (World.grownBy_alloc w3 _ none)))
                clear hK K
                try simp only [List.getElem_toArray, List.getElem_cons_zero, List.getElem_cons_succ, Act.put, List.setIfInBounds_toArray, List.set_cons_zero, List.set_cons_succ]
                refine wpAnyH_ready (rs := [16]) (by kernel_rfl) (by simp) ?_
                refine AllReadyH.cons rfl (fun K hK => ?_) (AllReadyH.nil)
                refine step_append_one (by rfl) _ _ (by rfl) (ob + 1) w3.heap.size _ l2 ⟨x.n, .slice a3 L3 c3, x.b.take nn.toNat, nn⟩ a3 L3 c3 rfl (by rfl) (by rfl) (hOut8.grown0 (grown_none hg83 (World.grownBy_alloc w3 (.cells #[.int .i64 x.n, .slice a3 L3 c3, .int .i64 nn] 64) none))).own (by intro k u hu; match k, hu with | 0, hu => (cases hu; simp) | 1, hu => (cases hu; simp) | 2, hu => (cases hu; simp) | k + 3, hu => simp [Sg.row] at hu) (by have := HL2.out; omega) (by have := hg83.size; have := hob8.out; simp; omega) ?_
                intro v5 w5 hr5 hg5 hloc5
                obtain ⟨va, vl, vc, hv5, k50, k51, k60, k61, c05, f05, hOut9, hg95⟩ := FE.out a3 L3 c3 w3 hg83 HB3 v5 w5 hr5 hg5 hloc5
                subst hv5
                refine hK.out _ _ ?_ (fun hHeld => ?_)
                · ((try dsimp only); exact ⟨k50, k51⟩)
                clear hK K
                try simp only [List.getElem_toArray, List.getElem_cons_zero, List.getElem_cons_succ, Act.put, List.setIfInBounds_toArray, List.set_cons_zero, List.set_cons_succ]
                refine wpAnyH_take (i := 17) (v := ?_) rfl (by kernel_rfl) (by kernel_rfl) (by kernel_rfl) (fun _ _ _ h => h) (Or.inl ⟨by rfl, ?_⟩) (by assumption) ?_
                rotate_left
                · (intro w hSw; (try dsimp only at hSw); (try go_split_ands); go_simp; try with_reducible rfl)
                try simp only [List.getElem_toArray, List.getElem_cons_zero, List.getElem_cons_succ, Act.put, List.setIfInBounds_toArray, List.set_cons_zero, List.set_cons_succ]
                refine wpAnyH_take (i := 18) (v := ?_) rfl (by kernel_rfl) (by kernel_rfl) (by kernel_rfl) (fun _ _ _ h => h) (Or.inl ⟨by rfl, ?_⟩) (by assumption) ?_
                rotate_left
                · (intro w hSw; (try dsimp only at hSw); (try go_split_ands); go_simp; try with_reducible rfl)
                try simp only [List.getElem_toArray, List.getElem_cons_zero, List.getElem_cons_succ, Act.put, List.setIfInBounds_toArray, List.set_cons_zero, List.set_cons_succ]
                refine wpAnyH_ready (rs := [19]) (by kernel_rfl) (by simp) ?_
                refine AllReadyH.cons rfl (fun K hK => ?_) (AllReadyH.nil)
                go_simp
                refine hK.out _ _ ?_ (fun hHeld => ?_)
                · ((try dsimp only); exact ⟨k60, k61⟩)
                clear hK K
                try simp only [List.getElem_toArray, List.getElem_cons_zero, List.getElem_cons_succ, Act.put, List.setIfInBounds_toArray, List.set_cons_zero, List.set_cons_succ]
                refine wpAnyH_done (by kernel_rfl) ?_ _
                go_wp2
                go_roundw
                case rel => exact ⟨j + 1, _, _, by omega, by go_num, hOut9, (hPOW.out _), hg95⟩
                case measure => simp [intOf]; omega
              · go_simp
                refine hK.out _ _ ?_ (fun hHeld => ?_)
                · ((try dsimp only); exact HSS.out _ (grown_none hg83 (World.grownBy_alloc w3 _ none)))
                clear hK K
                try simp only [List.getElem_toArray, List.getElem_cons_zero, List.getElem_cons_succ, Act.put, List.setIfInBounds_toArray, List.set_cons_zero, List.set_cons_succ]
                refine wpAnyH_ready (rs := [4]) (by kernel_rfl) (by simp) ?_
                refine AllReadyH.cons rfl (fun K hK => ?_) (AllReadyH.nil)
                go_simp
                refine hK.out _ _ ?_ (fun hHeld => ?_)
                · ((try dsimp only); assumption)
                clear hK K
                try simp only [List.getElem_toArray, List.getElem_cons_zero, List.getElem_cons_succ, Act.put, List.setIfInBounds_toArray, List.set_cons_zero, List.set_cons_succ]
                refine wpAnyH_ready (rs := [16]) (by kernel_rfl) (by simp) ?_
                refine AllReadyH.cons rfl (fun K hK => ?_) (AllReadyH.nil)
                refine step_append_one (by rfl) _ _ (by rfl) (ob + 1) w3.heap.size _ l2 ⟨x.n, .slice a3 L3 c3, x.b.take nn.toNat, nn⟩ a3 L3 c3 rfl (by rfl) (by rfl) (hOut8.grown0 (grown_none hg83 (World.grownBy_alloc w3 (.cells #[.int .i64 x.n, .slice a3 L3 c3, .int .i64 nn] 64) none))).own (by intro k u hu; match k, hu with | 0, hu => (cases hu; simp) | 1, hu => (cases hu; simp) | 2, hu => (cases hu; simp) | k + 3, hu => simp [Sg.row] at hu) (by have := HL2.out; omega) (by have := hg83.size; have := hob8.out; simp; omega) ?_
                intro v5 w5 hr5 hg5 hloc5
                obtain ⟨va, vl, vc, hv5, k50, k51, k60, k61, c05, f05, hOut9, hg95⟩ := FE.out a3 L3 c3 w3 hg83 HB3 v5 w5 hr5 hg5 hloc5
                subst hv5
                refine hK.out _ _ ?_ (fun hHeld => ?_)
                · ((try dsimp only); exact ⟨k50, k51⟩)
                clear hK K
                try simp only [List.getElem_toArray, List.getElem_cons_zero, List.getElem_cons_succ, Act.put, List.setIfInBounds_toArray, List.set_cons_zero, List.set_cons_succ]
                refine wpAnyH_take (i := 17) (v := ?_) rfl (by kernel_rfl) (by kernel_rfl) (by kernel_rfl) (fun _ _ _ h => h) (Or.inl ⟨by rfl, ?_⟩) (by assumption) ?_
                rotate_left
                · (intro w hSw; (try dsimp only at hSw); (try go_split_ands); go_simp; try with_reducible rfl)
                try simp only [List.getElem_toArray, List.getElem_cons_zero, List.getElem_cons_succ, Act.put, List.setIfInBounds_toArray, List.set_cons_zero, List.set_cons_succ]
                refine wpAnyH_take (i := 18) (v := ?_) rfl (by kernel_rfl) (by kernel_rfl) (by kernel_rfl) (fun _ _ _ h => h) (Or.inl ⟨by rfl, ?_⟩) (by assumption) ?_
                rotate_left
                · (intro w hSw; (try dsimp only at hSw); (try go_split_ands); go_simp; try with_reducible rfl)
                try simp only [List.getElem_toArray, List.getElem_cons_zero, List.getElem_cons_succ, Act.put, List.setIfInBounds_toArray, List.set_cons_zero, List.set_cons_succ]
                refine wpAnyH_ready (rs := [19]) (by kernel_rfl) (by simp) ?_
                refine AllReadyH.cons rfl (fun K hK => ?_) (AllReadyH.nil)
                go_simp
                refine hK.out _ _ ?_ (fun hHeld => ?_)
                · ((try dsimp only); exact ⟨k60, k61⟩)
                clear hK K
                try simp only [List.getElem_toArray, List.getElem_cons_zero, List.getElem_cons_succ, Act.put, List.setIfInBounds_toArray, List.set_cons_zero, List.set_cons_succ]
                refine wpAnyH_done (by kernel_rfl) ?_ _
                go_wp2
                go_roundw
                case rel => exact ⟨j + 1, _, _, by omega, by go_num, hOut9, (hPOW.out _), hg95⟩
                case measure => simp [intOf]; omega
        · have hdp : decide (nn > 0) = false := by simpa using hpos
          go_wp2
          go_roundw
          case rel =>
            have hn1 := hnn.out
            exact ⟨j + 1, l2, _, by omega, by go_num, hOut.grown0 hg8, stay (by omega), grown_none hgw hg8⟩
          case measure => simp [intOf]; omega
      · have hdk : decide ((j : Int) < (ks.length : Int)) = false := by simp; omega
        have hnn : Hid (x.s = pn ks[j]? x) := by
          show x.s = pn ks[j]? x
          rw [List.getElem?_eq_none (by omega)]
          rfl
        have hnlo : 0 ≤ x.s := by omega
        have hnhi : x.s ≤ x.b.length := by omega
        go_upto_if 38 with fail
        have hg8 := hgX
        have x0 := y0
        have x1 := y1
        clear y0 y1 y2 hgX
        generalize (wr.alloc (.cells #[.int .i64 x.n, .slice xa x.b.length xc, .int .i64 x.s] 64)) = w8 at *
        by_cases hpos : 0 < x.s
        · have hdp : decide (x.s > 0) = true := by simpa using hpos
          have hn1 := hnn.out
          have hOut8 := hOut.grown0 hg8
          have hobl := hOut.obl
          have hob8 : Hid (ob + 1 ≤ w8.heap.size) := by show ob + 1 ≤ w8.heap.size; have := hg8.size; omega
          have hb8 := hbx.grown (grown_none hgw hg8) (by simp)
          obtain ⟨a', hcut, hb9⟩ := run_cut hb8 x.s (by omega) (by omega)
          have hkl : (x.b.take x.s.toNat).length = x.s.toNat := by rw [List.length_take]; omega
          have HNB : Hid ((x.b.take x.s.toNat).length = x.s.toNat ∧ x.s.toNat ≤ 1024) := ⟨hkl, by omega⟩
          have hgB : w8.grownBy (w8.alloc (.cells #[] 5)).drew none := grown_none (World.grownBy_alloc w8 _ none) (grown_drew _)
          have hlitB := (lit_none w8 w8.heap.size (Nat.le_refl _)).drew
          have BB : Hid (Bts (w8.alloc (.cells #[] 5)).drew.heap.size (w8.alloc (.cells #[] 5)).drew (.slice a' x.s.toNat xc) (x.b.take x.s.toNat)) := hb9.1.grown0 hgB
          have HSS : Hid (∀ w', w8.grownBy w' none → w'.cell? ⟨wr.heap.size, 0, none⟩ = some (.int .i64 x.n) ∧ w'.cell? ⟨wr.heap.size, 1, none⟩ = some (.slice xa x.b.length xc)) := fun w' hg => ⟨grown_cell hg x0, grown_cell hg x1⟩
          have o1 := (hOut8.grown0 (grown_drew _)).c0
          have o2 := (hOut8.grown0 hgB).c0
          have o2' := (hOut8.grown0 (World.grownBy_alloc w8 (.cells #[] 5) none)).c0
          have FA : Hid (∀ (v3 : Value) (w3 : World), w3.ownsRow w8.heap.size 5 1 v3 (0 + (x.b.take x.s.toNat).length) (([] ++ x.b.take x.s.toNat).map (Value.int .u8)) → (w8.alloc (.cells #[] 5)).drew.grownBy w3 (Value.slice (some ⟨w8.heap.size, 0, none⟩) 0 0).ownBlock →
              ∃ a3 L3 c3, v3 = .slice a3 L3 c3 ∧ w8.grownBy w3 none ∧ Btx (N3 w ob (.slice va0 l2.length vc0)) w3 (.slice a3 L3 c3) (x.b.take x.s.toNat)) := fun v3 w3 hr3 hg3 => by
            have hb3 := Btx.of_own hr3 (by simpa using hb9.1.2)
            rw [List.nil_append] at hb3
            obtain ⟨a3, c3, rfl⟩ := hb3.1.shape
            have hg83 : w8.grownBy w3 none := hgB.andThen hg3 fun k hk => .inl (Nat.le_of_eq (by simpa [Value.ownBlock] using hk))
            have hs8 := hg8.size
            have hsw := hgw.size
            exact ⟨a3, _, c3, rfl, hg83, hb3.mono fun k hk => ⟨by omega, by omega, fun e => by have := (hOut.own.lt k e.symm).2; omega⟩⟩
          have FE : Hid (∀ a3 L3 c3 (w3 : World), w8.grownBy w3 none → Btx (N3 w ob (.slice va0 l2.length vc0)) w3 (.slice a3 L3 c3) (x.b.take x.s.toNat) → ∀ (v5 : Value) (w5 : World),
              w5.ownsRow (ob + 1) 64 3 v5 (l2 ++ [(⟨x.n, .slice a3 L3 c3, x.b.take x.s.toNat, x.s⟩ : Sg)]).length (rows (l2 ++ [(⟨x.n, .slice a3 L3 c3, x.b.take x.s.toNat, x.s⟩ : Sg)])) → (w3.alloc (.cells #[.int .i64 x.n, .slice a3 L3 c3, .int .i64 x.s] 64)).grownBy w5 (Value.slice va0 l2.length vc0).ownBlock →
              (v5.ownBlock = (Value.slice va0 l2.length vc0).ownBlock ∨ v5.ownBlock = some (w3.alloc (.cells #[.int .i64 x.n, .slice a3 L3 c3, .int .i64 x.s] 64)).heap.size) →
              ∃ va vl vc, v5 = .slice va vl vc ∧ w5.cell? ⟨wr.heap.size, 0, none⟩ = some (.int .i64 x.n) ∧ w5.cell? ⟨wr.heap.size, 1, none⟩ = some (.slice xa x.b.length xc) ∧
                (w5.setCell ⟨ob, 0, none⟩ (.slice va vl vc)).cell? ⟨wr.heap.size, 0, none⟩ = some (.int .i64 x.n) ∧ (w5.setCell ⟨ob, 0, none⟩ (.slice va vl vc)).cell? ⟨wr.heap.size, 1, none⟩ = some (.slice xa x.b.length xc) ∧
                w5.cell? ⟨ob, 0, none⟩ = some (.slice va0 l2.length vc0) ∧ w5.frozen? ⟨ob, 0, none⟩ = false ∧ Out w (w5.setCell ⟨ob, 0, none⟩ (.slice va vl vc)) ob (.slice va vl vc) (l2 ++ [⟨x.n, .slice a3 L3 c3, x.b.take x.s.toNat, x.s⟩]) root ∧ w.grownBy (w5.setCell ⟨ob, 0, none⟩ (.slice va vl vc)) none) := fun a3 L3 c3 w3 hg83 hB3 v5 w5 hr5 hg5 hloc => by
            have hgd := World.grownBy_alloc w3 (.cells #[.int .i64 x.n, .slice a3 L3 c3, .int .i64 x.s] 64) none
            have hg8d := grown_none hg83 hgd
            have hn2 := hnn.out
            have hk2 := HNB.out
            obtain ⟨hO5, c05, f05⟩ := (hOut8.grown0 hg8d).step ⟨x.n, .slice a3 L3 c3, x.b.take x.s.toNat, x.s⟩ hr5 hg5 hloc ⟨hseg.1, hseg.2.1, by dsimp only; omega, by dsimp only; omega, by dsimp only; omega, hB3.grown hgd (by simp)⟩ HUP.out HL2.out
            obtain ⟨va, vc, hv⟩ := (Rws.of_own hr5).shape
            have hnw : some wr.heap.size ≠ (Value.slice va0 l2.length vc0).ownBlock := fun e => by have := (hOut.own.lt _ e.symm).2; omega
            have hnb : some wr.heap.size ≠ some ob := fun e => by cases e; omega
            obtain ⟨z0, z1⟩ := HSS.out _ hg8d
            have g0 := hg5.cell z0 hnw
            have g1 := hg5.cell z1 hnw
            have hg5s := grown_setCell w5 ⟨ob, 0, none⟩ v5
            have hgw5 : w.grownBy w5 none := (grown_none (grown_none hgw hg8) hg8d).andThen hg5 fun k hk => .inl (by have := (hOut.own.lt k hk).1; omega)
            rw [hv] at hO5 hg5s
            exact ⟨va, _, vc, hv, g0, g1, hg5s.cell g0 hnb, hg5s.cell g1 hnb, c05, f05, hO5, grown_new hgw5 hg5s hs1⟩
          have hPOW : Hid (∀ u : Value, (l2 ++ [(⟨x.n, u, x.b.take x.s.toNat, x.s⟩ : Sg)]).map Sg.abs = powN ks rl (j + 1)) := fun u => by
            rw [List.map_append, MORE.out x.s hn1 hpos]
            rfl
          clear hkl hn1 hb8 hb9
          go_wp2_with fail
          refine wp_region_held_drew (S := fun w' => w'.cell? ⟨wr.heap.size, 0, none⟩ = some (.int .i64 x.n) ∧ w'.cell? ⟨wr.heap.size, 1, none⟩ = some (.slice xa x.b.length xc)) (by kernel_rfl) (by (try dsimp only); exact HSS.out _ (grown_drew _)) (fun hHeld => ?_)
          refine wpAnyH_take (i := 0) (v := ?_) rfl (by kernel_rfl) (by kernel_rfl) (by kernel_rfl) (fun _ _ _ h => h) (Or.inl ⟨by rfl, ?_⟩) (by assumption) ?_
          rotate_left
          · (intro w hSw; (try dsimp only at hSw); (try go_split_ands); go_simp; try with_reducible rfl)
          try simp only [List.getElem_toArray, List.getElem_cons_zero, List.getElem_cons_succ, Act.put, List.setIfInBounds_toArray, List.set_cons_zero, List.set_cons_succ]
          refine wpAnyH_take (i := 1) (v := ?_) rfl (by kernel_rfl) (by kernel_rfl) (by kernel_rfl) (fun _ _ _ h => h) (Or.inl ⟨by rfl, ?_⟩) (by assumption) ?_
          rotate_left
          · (intro w hSw; (try dsimp only at hSw); (try go_split_ands); go_simp; try with_reducible rfl)
          try simp only [List.getElem_toArray, List.getElem_cons_zero, List.getElem_cons_succ, Act.put, List.setIfInBounds_toArray, List.set_cons_zero, List.set_cons_succ]
          refine wpAnyH_take (i := 2) (v := ?_) rfl (by kernel_rfl) (by kernel_rfl) (by kernel_rfl) (fun _ _ _ h => h) (Or.inl ⟨by rfl, ?_⟩) (by assumption) ?_
          rotate_left
          · (intro w hSw; (try dsimp only at hSw); (try go_split_ands); go_simp; try with_reducible rfl)
          try simp only [List.getElem_toArray, List.getElem_cons_zero, List.getElem_cons_succ, Act.put, List.setIfInBounds_toArray, List.set_cons_zero, List.set_cons_succ]
          refine wpAnyH_take (i := 3) (v := ?_) rfl (by kernel_rfl) (by kernel_rfl) (by kernel_rfl) (fun _ _ _ h => h) (Or.inl ⟨by rfl, ?_⟩) (by assumption) ?_
          rotate_left
          · (intro w hSw; (try dsimp only at hSw); (try go_split_ands); go_simp; try with_reducible rfl)
          try simp only [List.getElem_toArray, List.getElem_cons_zero, List.getElem_cons_succ, Act.put, List.setIfInBounds_toArray, List.set_cons_zero, List.set_cons_succ]
          refine wpAnyH_take (i := 5) (v := ?_) rfl (by kernel_rfl) (by kernel_rfl) (by kernel_rfl) (fun _ _ _ h => h) (Or.inl ⟨by rfl, ?_⟩) (by assumption) ?_
          rotate_left
          · (intro w hSw; (try dsimp only at hSw); (try go_split_ands); go_simp; try with_reducible rfl)
          try simp only [List.getElem_toArray, List.getElem_cons_zero, List.getElem_cons_succ, Act.put, List.setIfInBounds_toArray, List.set_cons_zero, List.set_cons_succ]
          refine wpAnyH_take (i := 6) (v := ?_) rfl (by kernel_rfl) (by kernel_rfl) (by kernel_rfl) (fun _ _ _ h => h) (Or.inl ⟨by rfl, ?_⟩) (by assumption) ?_
          rotate_left
          · (intro w hSw; (try dsimp only at hSw); (try go_split_ands); go_simp; try with_reducible rfl)
          try simp only [List.getElem_toArray, List.getElem_cons_zero, List.getElem_cons_succ, Act.put, List.setIfInBounds_toArray, List.set_cons_zero, List.set_cons_succ]
          refine wpAnyH_take (i := 8) (v := ?_) rfl (by kernel_rfl) (by kernel_rfl) (by kernel_rfl) (fun _ _ _ h => h) (Or.inl ⟨by rfl, ?_⟩) (by assumption) ?_
          rotate_left
          · (intro w hSw; (try dsimp only at hSw); (try go_split_ands); go_simp; try with_reducible rfl)
          try simp only [List.getElem_toArray, List.getElem_cons_zero, List.getElem_cons_succ, Act.put, List.setIfInBounds_toArray, List.set_cons_zero, List.set_cons_succ]
          refine wpAnyH_take (i := 9) (v := ?_) rfl (by kernel_rfl) (by kernel_rfl) (by kernel_rfl) (fun _ _ _ h => h) (Or.inl ⟨by rfl, ?_⟩) (by assumption) ?_
          rotate_left
          · (intro w hSw; (try dsimp only at hSw); (try go_split_ands); go_simp; try with_reducible rfl)
          try simp only [List.getElem_toArray, List.getElem_cons_zero, List.getElem_cons_succ, Act.put, List.setIfInBounds_toArray, List.set_cons_zero, List.set_cons_succ]
          refine wpAnyH_take (i := 10) (v := ?_) rfl (by kernel_rfl) (by kernel_rfl) (by kernel_rfl) (fun _ _ _ h => h) (Or.inl ⟨by rfl, ?_⟩) (by assumption) ?_
          rotate_left
          · (intro w hSw; (try dsimp only at hSw); (try go_split_ands); go_simp; try with_reducible rfl)
          try simp only [List.getElem_toArray, List.getElem_cons_zero, List.getElem_cons_succ, Act.put, List.setIfInBounds_toArray, List.set_cons_zero, List.set_cons_succ]
          refine wpAnyH_take (i := 11) (v := ?_) rfl (by kernel_rfl) (by kernel_rfl) (by kernel_rfl) (fun _ _ _ h => h) (Or.inl ⟨by rfl, ?_⟩) (by assumption) ?_
          rotate_left
          · (intro w hSw; (try dsimp only at hSw); (try go_split_ands); go_simp; try with_reducible rfl)
          try simp only [List.getElem_toArray, List.getElem_cons_zero, List.getElem_cons_succ, Act.put, List.setIfInBounds_toArray, List.set_cons_zero, List.set_cons_succ]
          refine wpAnyH_take (i := 13) (v := ?_) rfl (by kernel_rfl) (by kernel_rfl) (by kernel_rfl) (fun _ _ _ h => h) (Or.inl ⟨by rfl, ?_⟩) (by assumption) ?_
          rotate_left
          · (intro w hSw; (try dsimp only at hSw); (try go_split_ands); go_simp; try with_reducible rfl)
          try simp only [List.getElem_toArray, List.getElem_cons_zero, List.getElem_cons_succ, Act.put, List.setIfInBounds_toArray, List.set_cons_zero, List.set_cons_succ]
          refine wpAnyH_ready (rs := [4, 7]) (by kernel_rfl) (by simp) ?_
          refine AllReadyH.cons rfl (fun K hK => ?_) (AllReadyH.cons rfl (fun K hK => ?_) (AllReadyH.nil))
          · go_simp
            refine hK.out _ _ ?_ (fun hHeld => ?_)
            · ((try dsimp only); assumption)
            clear hK K
            try simp only [List.getElem_toArray, List.getElem_cons_zero, List.getElem_cons_succ, Act.put, List.setIfInBounds_toArray, List.set_cons_zero, List.set_cons_succ]
            refine wpAnyH_ready (rs := [7]) (by kernel_rfl) (by simp) ?_
            refine AllReadyH.cons rfl (fun K hK => ?_) (AllReadyH.nil)
            go_simp
            refine hK.out _ _ ?_ (fun hHeld => ?_)
            · ((try dsimp only); exact HSS.out _ hgB)
            clear hK K
            try simp only [List.getElem_toArray, List.getElem_cons_zero, List.getElem_cons_succ, Act.put, List.setIfInBounds_toArray, List.set_cons_zero, List.set_cons_succ]
            refine wpAnyH_ready (rs := [12]) (by kernel_rfl) (by simp) ?_
            refine AllReadyH.cons rfl (fun K hK => ?_) (AllReadyH.nil)
            refine step_append_bytes (by rfl) _ _ (by rfl) _ _ (by rfl) (by rfl) w8.heap.size _ 0 [] (x.b.take x.s.toNat) hlitB BB.out (by have := HNB.out; omega) hgB.size ?_
            intro v3 w3 hr3 hg3
            obtain ⟨a3, L3, c3, hv3, hg83, HB3⟩ := FA.out v3 w3 hr3 hg3
            subst hv3
            have o3 := (hOut8.grown0 hg83).c0
            have o4 := (hOut8.grown0 (grown_none hg83 (World.grownBy_alloc w3 (.cells #[.int .i64 x.n, .slice a3 L3 c3, .int .i64 x.s] 64) none))).c0
            refine hK.out _ _ ?_ (fun hHeld => ?_)
            · ((try dsimp only); exact HSS.out _ hg83)
            clear hK K
            try simp only [List.getElem_toArray, List.getElem_cons_zero, List.getElem_cons_succ, Act.put, List.setIfInBounds_toArray, List.set_cons_zero, List.set_cons_succ]
            refine wpAnyH_take (i := 14) (v := ?_) rfl (by kernel_rfl) (by kernel_rfl) (by kernel_rfl) (fun _ _ _ h => h) (Or.inl ⟨by rfl, ?_⟩) (by assumption) ?_
            rotate_left
            · (intro w hSw; (try dsimp only at hSw); (try go_split_ands); go_simp; try with_reducible rfl)
            try simp only [List.getElem_toArray, List.getElem_cons_zero, List.getElem_cons_succ, Act.put, List.setIfInBounds_toArray, List.set_cons_zero, List.set_cons_succ]
            refine wpAnyH_ready (rs := [15]) (by kernel_rfl) (by simp) ?_
            refine AllReadyH.cons rfl (fun K hK => ?_) (AllReadyH.nil)
            go_simp
            refine hK.out _ _ ?_ (fun hHeld => ?_)
            · ((try dsimp only); exact HSS.out _ (grown_none hg83 (World.grownBy_alloc w3 _ none)))
            clear hK K
            try simp only [List.getElem_toArray, List.getElem_cons_zero, List.getElem_cons_succ, Act.put, List.setIfInBounds_toArray, List.set_cons_zero, List.set_cons_succ]
            refine wpAnyH_ready (rs := [16]) (by kernel_rfl) (by simp) ?_
            refine AllReadyH.cons rfl (fun K hK => ?_) (AllReadyH.nil)
            refine step_append_one (by rfl) _ _ (by rfl) (ob + 1) w3.heap.size _ l2 ⟨x.n, .slice a3 L3 c3, x.b.take x.s.toNat, x.s⟩ a3 L3 c3 rfl (by rfl) (by rfl) (hOut8.grown0 (grown_none hg83 (World.grownBy_alloc w3 (.cells #[.int .i64 x.n, .slice a3 L3 c3, .int .i64 x.s] 64) none))).own (by intro k u hu; match k, hu with | 0, hu => (cases hu; simp) | 1, hu => (cases hu; simp) | 2, hu => (cases hu; simp) | k + 3, hu => simp [Sg.row] at hu) (by have := HL2.out; omega) (by have := hg83.size; have := hob8.out; simp; omega) ?_
            intro v5 w5 hr5 hg5 hloc5
            obtain ⟨va, vl, vc, hv5, k50, k51, k60, k61, c05, f05, hOut9, hg95⟩ := FE.out a3 L3 c3 w3 hg83 HB3 v5 w5 hr5 hg5 hloc5
            subst hv5
            refine hK.out _ _ ?_ (fun hHeld => ?_)
            · ((try dsimp only); exact ⟨k50, k51⟩)
            clear hK K
            try simp only [List.getElem_toArray, List.getElem_cons_zero, List.getElem_cons_succ, Act.put, List.setIfInBounds_toArray, List.set_cons_zero, List.set_cons_succ]
            refine wpAnyH_take (i := 17) (v := ?_) rfl (by kernel_rfl) (by kernel_rfl) (by kernel_rfl) (fun _ _ _ h => h) (Or.inl ⟨by rfl, ?_⟩) (by assumption) ?_
            rotate_left
            · (intro w hSw; (try dsimp only at hSw); (try go_split_ands); go_simp; try with_reducible rfl)
            try simp only [List.getElem_toArray, List.getElem_cons_zero, List.getElem_cons_succ, Act.put, List.setIfInBounds_toArray, List.set_cons_zero, List.set_cons_succ]
            refine wpAnyH_take (i := 18) (v := ?_) rfl (by kernel_rfl) (by kernel_rfl) (by kernel_rfl) (fun _ _ _ h => h) (Or.inl ⟨by rfl, ?_⟩) (by assumption) ?_
            rotate_left
            · (intro w hSw; (try dsimp only at hSw); (try go_split_ands); go_simp; try with_reducible rfl)
            try simp only [List.getElem_toArray, List.getElem_cons_zero, List.getElem_cons_succ, Act.put, List.setIfInBounds_toArray, List.set_cons_zero, List.set_cons_succ]
            refine wpAnyH_ready (rs := [19]) (by kernel_rfl) (by simp) ?_
            refine AllReadyH.cons rfl (fun K hK => ?_) (AllReadyH.nil)
            go_simp
            refine hK.out _ _ ?_ (fun hHeld => ?_)
            · ((try dsimp only); exact ⟨k60, k61⟩)
            clear hK K
            try simp only [List.getElem_toArray, List.getElem_cons_zero, List.getElem_cons_succ, Act.put, List.setIfInBounds_toArray, List.set_cons_zero, List.set_cons_succ]
            refine wpAnyH_done (by kernel_rfl) ?_ _
            go_wp2
            go_roundw
            case rel => exact ⟨j + 1, _, _, by omega, by go_num, hOut9, (hPOW.out _), hg95⟩
            case measure => simp [intOf]; omega
          · go_simp
            refine hK.out _ _ ?_ (fun hHeld => ?_)
            · ((try dsimp only); exact HSS.out _ hgB)
            clear hK K
            try simp only [List.getElem_toArray, List.getElem_cons_zero, List.getElem_cons_succ, Act.put, List.setIfInBounds_toArray, List.set_cons_zero, List.set_cons_succ]
            refine wpAnyH_ready (rs := [4, 12]) (by kernel_rfl) (by simp) ?_
            refine AllReadyH.cons rfl (fun K hK => ?_) (AllReadyH.cons rfl (fun K hK => ?_) (AllReadyH.nil))
            · go_simp
              refine hK.out _ _ ?_ (fun hHeld => ?_)
              · ((try dsimp only); assumption)
              clear hK K
              try simp only [List.getElem_toArray, List.getElem_cons_zero, List.getElem_cons_succ, Act.put, List.setIfInBounds_toArray, List.set_cons_zero, List.set_cons_succ]
              refine wpAnyH_ready (rs := [12]) (by kernel_rfl) (by simp) ?_
              refine AllReadyH.cons rfl (fun K hK => ?_) (AllReadyH.nil)
              refine step_append_bytes (by rfl) _ _ (by rfl) _ _ (by rfl) (by rfl) w8.heap.size _ 0 [] (x.b.take x.s.toNat) hlitB BB.out (by have := HNB.out; omega) hgB.size ?_
              intro v3 w3 hr3 hg3
              obtain ⟨a3, L3, c3, hv3, hg83, HB3⟩ := FA.out v3 w3 hr3 hg3
              subst hv3
              have o3 := (hOut8.grown0 hg83).c0
              have o4 := (hOut8.grown0 (grown_none hg83 (World.grownBy_alloc w3 (.cells #[.int .i64 x.n, .slice a3 L3 c3, .int .i64 x.s] 64) none))).c0
              refine hK.out _ _ ?_ (fun hHeld => ?_)
              · ((try dsimp only); exact HSS.out _ hg83)
              clear hK K
              try simp only [List.getElem_toArray, List.getElem_cons_zero, List.getElem_cons_succ, Act.put, List.setIfInBounds_toArray, List.set_cons_zero, List.set_cons_succ]
              refine wpAnyH_take (i := 14) (v := ?_) rfl (by kernel_rfl) (by kernel_rfl) (by kernel_rfl) (fun _ _ _ h => h) (Or.inl ⟨by rfl, ?_⟩) (by assumption) ?_
              rotate_left
              · (intro w hSw; (try dsimp only at hSw); (try go_split_ands); go_simp; try with_reducible rfl)
              try simp only [List.getElem_toArray, List.getElem_cons_zero, List.getElem_cons_succ, Act.put, List.setIfInBounds_toArray, List.set_cons_zero, List.set_cons_succ]
              refine wpAnyH_ready (rs := [15]) (by kernel_rfl) (by simp) ?_
              refine AllReadyH.cons rfl (fun K hK => ?_) (AllReadyH.nil)
              go_simp
              refine hK.out _ _ ?_ (fun hHeld => ?_)
              · ((try dsimp only); exact HSS.out _ (grown_none hg83 (World.grownBy_alloc w3 _ none)))
              clear hK K
              try simp only [List.getElem_toArray, List.getElem_cons_zero, List.getElem_cons_succ, Act.put, List.setIfInBounds_toArray, List.set_cons_zero, List.set_cons_succ]
              refine wpAnyH_ready (rs := [16]) (by kernel_rfl) (by simp) ?_
              refine AllReadyH.cons rfl (fun K hK => ?_) (AllReadyH.nil)
              refine step_append_one (by rfl) _ _ (by rfl) (ob + 1) w3.heap.size _ l2 ⟨x.n, .slice a3 L3 c3, x.b.take x.s.toNat, x.s⟩ a3 L3 c3 rfl (by rfl) (by rfl) (hOut8.grown0 (grown_none hg83 (World.grownBy_alloc w3 (.cells #[.int .i64 x.n, .slice a3 L3 c3, .int .i64 x.s] 64) none))).own (by intro k u hu; match k, hu with | 0, hu => (cases hu; simp) | 1, hu => (cases hu; simp) | 2, hu => (cases hu; simp) | k + 3, hu => simp [Sg.row] at hu) (by have := HL2.out; omega) (by have := hg83.size; have := hob8.out; simp; omega) ?_
              intro v5 w5 hr5 hg5 hloc5
              obtain ⟨va, vl, vc, hv5, k50, k51, k60, k61, c05, f05, hOut9, hg95⟩ := FE.out a3 L3 c3 w3 hg83 HB3 v5 w5 hr5 hg5 hloc5
              subst hv5
              refine hK.out _ _ ?_ (fun hHeld => ?_)
              · ((try dsimp only); exact ⟨k50, k51⟩)
              clear hK K
              try simp only [List.getElem_toArray, List.getElem_cons_zero, List.getElem_cons_succ, Act.put, List.setIfInBounds_toArray, List.set_cons_zero, List.set_cons_succ]
              refine wpAnyH_take (i := 17) (v := ?_) rfl (by kernel_rfl) (by kernel_rfl) (by kernel_rfl) (fun _ _ _ h => h) (Or.inl ⟨by rfl, ?_⟩) (by assumption) ?_
              rotate_left
              · (intro w hSw; (try dsimp only at hSw); (try go_split_ands); go_simp; try with_reducible rfl)
              try simp only [List.getElem_toArray, List.getElem_cons_zero, List.getElem_cons_succ, Act.put, List.setIfInBounds_toArray, List.set_cons_zero, List.set_cons_succ]
              refine wpAnyH_take (i := 18) (v := ?_) rfl (by kernel_rfl) (by kernel_rfl) (by kernel_rfl) (fun _ _ _ h => h) (Or.inl ⟨by rfl, ?_⟩) (by assumption) ?_
              rotate_left
              · (intro w hSw; (try dsimp only at hSw); (try go_split_ands); go_simp; try with_reducible rfl)
              try simp only [List.getElem_toArray, List.getElem_cons_zero, List.getElem_cons_succ, Act.put, List.setIfInBounds_toArray, List.set_cons_zero, List.set_cons_succ]
              refine wpAnyH_ready (rs := [19]) (by kernel_rfl) (by simp) ?_
              refine AllReadyH.cons rfl (fun K hK => ?_) (AllReadyH.nil)
              go_simp
              refine hK.out _ _ ?_ (fun hHeld => ?_)
              · ((try dsimp only); exact ⟨k60, k61⟩)
              clear hK K
              try simp only [List.getElem_toArray, List.getElem_cons_zero, List.getElem_cons_succ, Act.put, List.setIfInBounds_toArray, List.set_cons_zero, List.set_cons_succ]
              refine wpAnyH_done (by kernel_rfl) ?_ _
              go_wp2
              go_roundw
              case rel => exact ⟨j + 1, _, _, by omega, by go_num, hOut9, (hPOW.out _), hg95⟩
              case measure => simp [intOf]; omega
            · refine step_append_bytes (by rfl) _ _ (by rfl) _ _ (by rfl) (by rfl) w8.heap.size _ 0 [] (x.b.take x.s.toNat) hlitB BB.out (by have := HNB.out; omega) hgB.size ?_
              intro v3 w3 hr3 hg3
              obtain ⟨a3, L3, c3, hv3, hg83, HB3⟩ := FA.out v3 w3 hr3 hg3
              subst hv3
              have o3 := (hOut8.grown0 hg83).c0
              have o4 := (hOut8.grown0 (grown_none hg83 (World.grownBy_alloc w3 (.cells #[.int .i64 x.n, .slice a3 L3 c3, .int .i64 x.s] 64) none))).c0
              refine hK.out _ _ ?_ (fun hHeld => ?_)
              · ((try dsimp only); exact HSS.out _ hg83)
              clear hK K
              try simp only [List.getElem_toArray, List.getElem_cons_zero, List.getElem_cons_succ, Act.put, List.setIfInBounds_toArray, List.set_cons_zero, List.set_cons_succ]
              refine wpAnyH_take (i := 14) (v := ?_) rfl (by kernel_rfl) (by kernel_rfl) (by kernel_rfl) (fun _ _ _ h => h) (Or.inl ⟨by rfl, ?_⟩) (by assumption) ?_
              rotate_left
              · (intro w hSw; (try dsimp only at hSw); (try go_split_ands); go_simp; try with_reducible rfl)
              try simp only [List.getElem_toArray, List.getElem_cons_zero, List.getElem_cons_succ, Act.put, List.setIfInBounds_toArray, List.set_cons_zero, List.set_cons_succ]
              refine wpAnyH_ready (rs := [4, 15]) (by kernel_rfl) (by simp) ?_
              refine AllReadyH.cons rfl (fun K hK => ?_) (AllReadyH.cons rfl (fun K hK => ?_) (AllReadyH.nil))
              · go_simp
                refine hK.out _ _ ?_ (fun hHeld => ?_)
                · ((try dsimp only); assumption)
                clear hK K
                try simp only [List.getElem_toArray, List.getElem_cons_zero, List.getElem_cons_succ, Act.put, List.setIfInBounds_toArray, List.set_cons_zero, List.set_cons_succ]
                refine wpAnyH_ready (rs := [15]) (by kernel_rfl) (by simp) ?_
                refine AllReadyH.cons rfl (fun K hK => ?_) (AllReadyH.nil)
                go_simp
                refine hK.out _ _ ?_ (fun hHeld => ?_)
                · ((try dsimp only); exact HSS.out _ (grown_none hg83 (World.grownBy_alloc w3 _ none)))
                clear hK K
                try simp only [List.getElem_toArray, List.getElem_cons_zero, List.getElem_cons_succ, Act.put, List.setIfInBounds_toArray, List.set_cons_zero, List.set_cons_succ]
                refine wpAnyH_ready (rs := [16]) (by kernel_rfl) (by simp) ?_
                refine AllReadyH.cons rfl (fun K hK => ?_) (AllReadyH.nil)
                refine step_append_one (by rfl) _ _ (by rfl) (ob + 1) w3.heap.size _ l2 ⟨x.n, .slice a3 L3 c3, x.b.take x.s.toNat, x.s⟩ a3 L3 c3 rfl (by rfl) (by rfl) (hOut8.grown0 (grown_none hg83 (World.grownBy_alloc w3 (.cells #[.int .i64 x.n, .slice a3 L3 c3, .int .i64 x.s] 64) none))).own (by intro k u hu; match k, hu with | 0, hu => (cases hu; simp) | 1, hu => (cases hu; simp) | 2, hu => (cases hu; simp) | k + 3, hu => simp [Sg.row] at hu) (by have := HL2.out; omega) (by have := hg83.size; have := hob8.out; simp; omega) ?_
                intro v5 w5 hr5 hg5 hloc5
                obtain ⟨va, vl, vc, hv5, k50, k51, k60, k61, c05, f05, hOut9, hg95⟩ := FE.out a3 L3 c3 w3 hg83 HB3 v5 w5 hr5 hg5 hloc5
                subst hv5
                refine hK.out _ _ ?_ (fun hHeld => ?_)
                · ((try dsimp only); exact ⟨k50, k51⟩)
                clear hK K
                try simp only [List.getElem_toArray, List.getElem_cons_zero, List.getElem_cons_succ, Act.put, List.setIfInBounds_toArray, List.set_cons_zero, List.set_cons_succ]
                refine wpAnyH_take (i := 17) (v := ?_) rfl (by kernel_rfl) (by kernel_rfl) (by kernel_rfl) (fun _ _ _ h => h) (Or.inl ⟨by rfl, ?_⟩) (by assumption) ?_
                rotate_left
                · (intro w hSw; (try dsimp only at hSw); (try go_split_ands); go_simp; try with_reducible rfl)
                try simp only [List.getElem_toArray, List.getElem_cons_zero, List.getElem_cons_succ, Act.put, List.setIfInBounds_toArray, List.set_cons_zero, List.set_cons_succ]
                refine wpAnyH_take (i := 18) (v := ?_) rfl (by kernel_rfl) (by kernel_rfl) (by kernel_rfl) (fun _ _ _ h => h) (Or.inl ⟨by rfl, ?_⟩) (by assumption) ?_
                rotate_left
                · (intro w hSw; (try dsimp only at hSw); (try go_split_ands); go_simp; try with_reducible rfl)
                try simp only [List.getElem_toArray, List.getElem_cons_zero, List.getElem_cons_succ, Act.put, List.setIfInBounds_toArray, List.set_cons_zero, List.set_cons_succ]
                refine wpAnyH_ready (rs := [19]) (by kernel_rfl) (by simp) ?_
                refine AllReadyH.cons rfl (fun K hK => ?_) (AllReadyH.nil)
                go_simp
                refine hK.out _ _ ?_ (fun hHeld => ?_)
                · ((try dsimp only); exact ⟨k60, k61⟩)
                clear hK K
                try simp only [List.getElem_toArray, List.getElem_cons_zero, List.getElem_cons_succ, Act.put, List.setIfInBounds_toArray, List.set_cons_zero, List.set_cons_succ]
                refine wpAnyH_done (by kernel_rfl) ?_ _
                go_wp2
                go_roundw
                case rel => exact ⟨j + 1, _, _, by omega, by go_num, hOut9, (hPOW.out _), hg95⟩
                case measure => simp [intOf]; omega
              · go_simp
                refine hK.out _ _ ?_ (fun hHeld => ?_)
                · ((try dsimp only); exact HSS.out _ (grown_none hg83 (World.grownBy_alloc w3 _ none)))
                clear hK K
                try simp only [List.getElem_toArray, List.getElem_cons_zero, List.getElem_cons_succ, Act.put, List.setIfInBounds_toArray, List.set_cons_zero, List.set_cons_succ]
                refine wpAnyH_ready (rs := [4]) (by kernel_rfl) (by simp) ?_
                refine AllReadyH.cons rfl (fun K hK => ?_) (AllReadyH.nil)
                go_simp
                refine hK.out _ _ ?_ (fun hHeld => ?_)
                · ((try dsimp only); assumption)
                clear hK K
                try simp only [List.getElem_toArray, List.getElem_cons_zero, List.getElem_cons_succ, Act.put, List.setIfInBounds_toArray, List.set_cons_zero, List.set_cons_succ]
                refine wpAnyH_ready (rs := [16]) (by kernel_rfl) (by simp) ?_
                refine AllReadyH.cons rfl (fun K hK => ?_) (AllReadyH.nil)
                refine step_append_one (by rfl) _ _ (by rfl) (ob + 1) w3.heap.size _ l2 ⟨x.n, .slice a3 L3 c3, x.b.take x.s.toNat, x.s⟩ a3 L3 c3 rfl (by rfl) (by rfl) (hOut8.grown0 (grown_none hg83 (World.grownBy_alloc w3 (.cells #[.int .i64 x.n, .slice a3 L3 c3, .int .i64 x.s] 64) none))).own (by intro k u hu; match k, hu with | 0, hu => (cases hu; simp) | 1, hu => (cases hu; simp) | 2, hu => (cases hu; simp) | k + 3, hu => simp [Sg.row] at hu) (by have := HL2.out; omega) (by have := hg83.size; have := hob8.out; simp; omega) ?_
                intro v5 w5 hr5 hg5 hloc5
                obtain ⟨va, vl, vc, hv5, k50, k51, k60, k61, c05, f05, hOut9, hg95⟩ := FE.out a3 L3 c3 w3 hg83 HB3 v5 w5 hr5 hg5 hloc5
                subst hv5
                refine hK.out _ _ ?_ (fun hHeld => ?_)
                · ((try dsimp only); exact ⟨k50, k51⟩)
                clear hK K
                try simp only [List.getElem_toArray, List.getElem_cons_zero, List.getElem_cons_succ, Act.put, List.setIfInBounds_toArray, List.set_cons_zero, List.set_cons_succ]
                refine wpAnyH_take (i := 17) (v := ?_) rfl (by kernel_rfl) (by kernel_rfl) (by kernel_rfl) (fun _ _ _ h => h) (Or.inl ⟨by rfl, ?_⟩) (by assumption) ?_
                rotate_left
                · (intro w hSw; (try dsimp only at hSw); (try go_split_ands); go_simp; try with_reducible rfl)
                try simp only [List.getElem_toArray, List.getElem_cons_zero, List.getElem_cons_succ, Act.put, List.setIfInBounds_toArray, List.set_cons_zero, List.set_cons_succ]
                refine wpAnyH_take (i := 18) (v := ?_) rfl (by kernel_rfl) (by kernel_rfl) (by kernel_rfl) (fun _ _ _ h => h) (Or.inl ⟨by rfl, ?_⟩) (by assumption) ?_
                rotate_left
                · (intro w hSw; (try dsimp only at hSw); (try go_split_ands); go_simp; try with_reducible rfl)
                try simp only [List.getElem_toArray, List.getElem_cons_zero, List.getElem_cons_succ, Act.put, List.setIfInBounds_toArray, List.set_cons_zero, List.set_cons_succ]
                refine wpAnyH_ready (rs := [19]) (by kernel_rfl) (by simp) ?_
                refine AllReadyH.cons rfl (fun K hK => ?_) (AllReadyH.nil)
                go_simp
                refine hK.out _ _ ?_ (fun hHeld => ?_)
                · ((try dsimp only); exact ⟨k60, k61⟩)
                clear hK K
                try simp only [List.getElem_toArray, List.getElem_cons_zero, List.getElem_cons_succ, Act.put, List.setIfInBounds_toArray, List.set_cons_zero, List.set_cons_succ]
                refine wpAnyH_done (by kernel_rfl) ?_ _
                go_wp2
                go_roundw
                case rel => exact ⟨j + 1, _, _, by omega, by go_num, hOut9, (hPOW.out _), hg95⟩
                case measure => simp [intOf]; omega
        · have hdp : decide (x.s > 0) = false := by simpa using hpos
          go_wp2
          go_roundw
          case rel =>
            have hn1 := hnn.out
            exact ⟨j + 1, l2, _, by omega, by go_num, hOut.grown0 hg8, stay (by omega), grown_none hgw hg8⟩
          case measure => simp [intOf]; omega
    · have hdj : decide ((j : Int) < (rl.length : Int)) = false := by simp; omega
      go_wp2
      go_ret
      obtain rfl : j = rl.length := by omega
      exact ⟨ob, l2, rfl, hs1, hOut.rsk, hpow, hgw⟩
end Go.Proofs.Ytmhpbemfejkdaaa
