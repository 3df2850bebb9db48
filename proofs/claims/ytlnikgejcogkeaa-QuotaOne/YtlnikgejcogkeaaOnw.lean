/- The walk of QuotaOne: whatever the sizes and the number of timers, it answers true, and nothing that lay in memory has turned. -/
import Derived.Test.YtlnikgejcogkeaaQst
import Derived.Deep.CutBlock
namespace Go.Proofs.Ytlnikgejcogkeaa
open Go.RowKit Go.IntWalk Go.Maps
set_option linter.unusedVariables false
theorem wpList_append_run {ops : Array Oper} {rest : List Oper} {o : Oper} {a : Act} {w : World} {Q : Exit → Act → World → Prop} (hg : o.guard = none) (sl x : Operand) (t : TypeId) (hop : o.op = Op.call { callee := Callee.builtin Builtin.append, args := #[sl, x], argTypes := #[t, t] })
    (v u : Value) (hs : a.eval sl = v) (hx : a.eval x = u) {v' : Value} {w' : World} (hrun : (Builtin.append_ #[t, t] o.type #[v, u]).run Try.prog w = .ok v' w') (hK : wpList Try.prog ops Q rest (a.put o.dst v') w') :
    wpList Try.prog ops Q (o :: rest) a w := by
  refine wpList_plain hg fun K hK' => ?_
  unfold Oper.wp
  simp [execOp, hop, resolve, invoke, builtin, hs, hx, hrun, Result.andThen]
  exact hK' _ _ hK
/-- What the law holds behind its first loop. -/
def Aft1 (w wx : World) (kv : Value) : Prop := ∃ vv zs vs, ∃ m r : Int, Ql w wx kv vv zs vs ∧ (∀ z ∈ zs, I64 z) ∧ zs.length ≤ 200 ∧ wx.heap[w.heap.size]? = some (bU m r 0)
/-- What it holds in that loop: as many values as keys, all of sizes that may be, and their use, which is right. -/
def Run1 (w wr : World) (kv vv : Value) (k : Nat) (zs vs : List Int) (r : Int) : Prop :=
  Ql w wr kv vv zs vs ∧ (vs.length = zs.length ∧ zs.length ≤ k ∧ cntL zs vs zs.length = r) ∧ (∀ z ∈ zs, Siz z) ∧ (∀ z ∈ vs, Siz z) ∧ Rgt zs.length r 0 ∧ wr.heap[w.heap.size]? = some (bU zs.length r 0)
theorem siz_i64 {z : Int} (h : Siz z) : I64 z := by obtain ⟨_, _⟩ := h; exact ⟨by omega, by omega⟩
theorem Run1.aft {w wr : World} {kv vv : Value} {k : Nat} {zs vs : List Int} {r : Int} (h : Run1 w wr kv vv k zs vs r) (hk : k ≤ 200) : Aft1 w wr kv :=
  ⟨vv, zs, vs, _, r, h.1, fun z hz => siz_i64 (h.2.2.1 z hz), by have := h.2.1.2.1; omega, h.2.2.2.2.2⟩
theorem Ql.turnU {w wr w2 : World} {kv vv : Value} {zs vs : List Int} (h : Ql w wr kv vv zs vs) (hg : wr.grownBy w2 (some w.heap.size)) : Ql w w2 kv vv zs vs := by
  have ne : ∀ {v : Value} {l : List Int}, wr.ownsRow (w.heap.size + 1) 3 1 v l.length (l.map (Value.int .i64)) → (v.ownBlock = none ∨ v.ownBlock ≠ some w.heap.size) := fun {v l} hr => by
    cases e : v.ownBlock with
    | none => exact .inl rfl
    | some k => exact .inr fun e2 => by cases e2; have := own_lo hr e; omega
  exact ⟨h.hk.kept hg (ne h.hk), h.hv.kept hg (ne h.hv), h.ap, h.be.grown hg (by have := h.sz; omega) (fun k e => by cases e; exact Nat.le_refl _), Nat.le_trans h.sz hg.size⟩
theorem arm_more {n : Int} (h0 : 0 ≤ n) (h : n < 50) : cg 0 0 n 0 0 0 0 0 1 = 0 :=
  (cg_zero sml_timer).2 ⟨⟨by omega, by omega, by omega, by omega⟩, ⟨by omega, by omega, by omega, by omega⟩, ⟨by omega, by omega, by omega, by omega⟩⟩
theorem arm_full : cg 0 0 50 0 0 0 0 0 1 = 113 := by decide
set_option maxRecDepth 100000 in
set_option maxHeartbeats 4000000 in
theorem one_walk (w : World) {v : Value} {xs : List Th} (hl : Szs w.heap.size w v xs) {t : Int} (ht : I64 t) :
    Calls Try.prog 5 #[v, .int .i64 t] w fun e w' => e = .returned (.bool true) ∧ Below w.heap.size w w' := by
  obtain ⟨la, lc, rfl, hll⟩ := hl.shape
  have hml : maxLen = 9223372036854775807 := by decide
  go_enter Try.func5, Try.ntmps5
  go_upto_block 0 with fail
  go_cut [6] from 7 (fun kv wx => Hid (Aft1 w wx kv))
  case first =>
    go_wp2_with fail
    go_loopw [6, 7, 8] (fun kv vv i wr => ∃ (k : Nat) (zs vs : List Int) (r : Int), i = .int .i64 k ∧ k ≤ 200 ∧ k ≤ xs.length ∧ Hid (Run1 w wr kv vv k zs vs r)) (fun _ _ i _ => (xs.length - intOf i).toNat)
    case atStart => exact ⟨0, [], [], 0, rfl, by omega, by omega, ⟨Ql.start _ _, ⟨rfl, Nat.le_refl _, rfl⟩, by simp, by simp, by decide, heap_new w _⟩⟩
    case round =>
      obtain ⟨k, zs, vs, r, rfl, hk2, hkl, hst⟩ := hrel
      by_cases hlt : k < xs.length
      · by_cases hl2 : k < 200
        · have hx : xs[k]? = some xs[k] := List.getElem?_eq_getElem hlt
          obtain ⟨b, off, rfl, hbl, hxo, x0, x1, x2⟩ := (hl.below (hst.out.1.be)).at hx
          generalize xs[k] = x at *
          obtain ⟨x, wx, y⟩ := x
          obtain ⟨⟨hxa, hxa'⟩, -, hxc, hxc'⟩ := hxo
          simp only at x0 x1 x2 hxa hxa' hxc hxc'
          have hl' := Hid.mk hl
          clear hl
          by_cases hsz : Siz x ∧ Siz y
          · obtain ⟨hsx, hsy⟩ := hsz
            obtain ⟨ka, kc, rfl⟩ := own_shape hst.out.1.hk
            obtain ⟨va, vc, rfl⟩ := own_shape hst.out.1.hv
            have hzl : zs.length ≤ 200 := by have := hst.out.2.1.2.1; omega
            obtain ⟨h1, ⟨h2, h3, h4⟩, h5, h6, h7, h8⟩ := hst.out
            clear hst
            have hp := heap_new wr (bS x wx y)
            have hp8 := heap_al h8 (bS x wx y)
            have q1 := h1.al (bS x wx y)
            obtain ⟨ka2, kc2, w2, run1, q2, g2⟩ := q1.addK (by omega) x 22
            have hsz1 : (wr.alloc (bS x wx y)).heap.size = wr.heap.size + 1 := by simp
            rw [hsz1] at run1
            replace hp := (g2.block wr.heap.size (by simp) (fun e => by have := own_lo h1.hk e.symm; omega)).trans hp
            replace hp8 := (g2.block w.heap.size (heap_lt hp8) (fun e => by have := own_lo h1.hk e.symm; omega)).trans hp8
            obtain ⟨va2, vc2, w3, run2, q3, g3⟩ := q2.addV (by omega) y 22
            have hp3 := (g3.block wr.heap.size (heap_lt hp) (fun e => by have := own_lo q1.hv e.symm; have := own_lo h1.hv e.symm; omega)).trans hp
            have hu3 := (g3.block w.heap.size (heap_lt hp8) (fun e => by have := own_lo h1.hv e.symm; omega)).trans hp8
            obtain ⟨s0, s1, s2, sf⟩ := own3 hp
            have hz2 : ∀ z ∈ zs ++ [x], Siz z := fun z hz => by
              rcases List.mem_append.1 hz with h | h
              · exact h5 z h
              · obtain rfl := List.mem_singleton.1 h; exact hsx
            have hv2 : ∀ z ∈ vs ++ [y], Siz z := fun z hz => by
              rcases List.mem_append.1 hz with h | h
              · exact h6 z h
              · obtain rfl := List.mem_singleton.1 h; exact hsy
            have hcn : cntL (zs ++ [x]) (vs ++ [y]) (zs.length + 1) = r + (x + y) := by rw [cntL_one h2 hsx hsy (by rw [h4]; exact h7.2.1.2), h4]
            have f1 := of_any w3 (ins_own q3.hk fun z hz => siz_i64 (hz2 z hz)) (ins_own q3.hv fun z hz => siz_i64 (hv2 z hz)) (by simp; omega) (by simp; omega) (t := 0) ⟨by decide, by decide⟩ (n := zs.length + 1) ⟨by simp; omega⟩ ⟨hcn⟩ (T := 0) ⟨rfl⟩
            rw [show ((zs.length + 1 : Nat) : Int) = (zs.length : Int) + 1 from rfl] at f1
            have f2 := fun w1 => putN_any (k := zs.length) (r := r) (t := 0) (ky := x) (was := 0) (vl := y) ⟨hxa, hxa'⟩ ⟨by decide, by decide⟩ ⟨hxc, hxc'⟩ ⟨rfl⟩ w1
            have f3 := fun w1 => right_any ((zs.length : Int) + 1) (r + (x + y)) 0 w1
            have hok := putN_ok h7 hsx hsy
            obtain ⟨hx0, hx1⟩ := hsx
            obtain ⟨hy0, hy1⟩ := hsy
            replace q2 := Hid.mk q2
            replace h1 := Hid.mk h1
            replace q1 := Hid.mk q1
            replace q3 := Hid.mk q3
            replace h2 := Hid.mk h2
            replace h4 := Hid.mk h4
            replace hcn := Hid.mk hcn
            replace h7 := Hid.mk h7
            replace g2 := Hid.mk g2
            replace g3 := Hid.mk g3
            replace hsz1 := Hid.mk hsz1
            replace hp := Hid.mk hp
            replace h8 := Hid.mk h8
            replace hp8 := Hid.mk hp8
            go_wp2_with (first | (at_builtin; refine wpList_append_run rfl _ _ 22 rfl _ _ rfl rfl run1 ?_; clear run1) | (at_builtin; refine wpList_append_run rfl _ _ 22 rfl _ _ rfl rfl run2 ?_; clear run2) | fail)
            refine f1.mono ?_
            rintro e w4 ⟨rfl, hB4⟩
            have hu4 := heap_al (heap_keep hu3 hB4) (bU ((zs.length : Int) + 1) (r + (x + y)) 0)
            have hp4 := heap_al (heap_keep hp3 hB4) (bU ((zs.length : Int) + 1) (r + (x + y)) 0)
            have hw4 := heap_new w4 (bU ((zs.length : Int) + 1) (r + (x + y)) 0)
            have q4 := (q3.out.keep hB4).al (bU ((zs.length : Int) + 1) (r + (x + y)) 0)
            replace q4 := Hid.mk q4
            clear s0 s1 s2 sf hB4 hu3 hp3 f1
            obtain ⟨s0, s1, s2, sf⟩ := own3 hp4
            obtain ⟨c0, c1, c2, cf⟩ := own3 hu4
            go_wp2_with fail
            refine (f2 _).mono ?_
            rintro e w5 ⟨rfl, hB5⟩
            clear s0 s1 s2 sf c0 c1 c2 cf f2 hp4
            replace hu4 := heap_keep hu4 hB5
            replace hw4 := heap_keep hw4 hB5
            replace q4 := Hid.mk (q4.out.keep hB5)
            clear hB5
            by_cases hR : Rgt ((zs.length : Int) + 1) (r + (x + y)) 0
            · have ho := hok.2 hR
              rw [ho, ans_ok]
              simp only [rgt_true hR] at f3
              replace hu4 := heap_al hu4 (bU ((zs.length : Int) + 1) (r + (x + y)) 0)
              replace hw4 := heap_al hw4 (bU ((zs.length : Int) + 1) (r + (x + y)) 0)
              have hv4 := heap_new w5 (bU ((zs.length : Int) + 1) (r + (x + y)) 0)
              replace q4 := Hid.mk (q4.out.al (bU ((zs.length : Int) + 1) (r + (x + y)) 0))
              obtain ⟨c0, c1, c2, cf⟩ := own3 hw4
              replace hok := Hid.mk hok
              clear ho
              go_wp2_with fail
              refine (f3 _).mono ?_
              rintro e w6 ⟨rfl, hB6⟩
              clear c0 c1 c2 cf f3
              replace hu4 := heap_keep hu4 hB6
              replace hw4 := heap_keep hw4 hB6
              replace hv4 := heap_keep hv4 hB6
              replace q4 := Hid.mk (q4.out.keep hB6)
              clear hB6
              obtain ⟨c0, c1, c2, cf⟩ := own3 hw4
              obtain ⟨d0, d1, d2, df⟩ := own3 hv4
              have hRh := Hid.mk hR
              clear hR
              go_wp2_with (first | (refine wpList_store3 rfl _ _ rfl rfl _ ((zs.length : Int) + 1) (r + (x + y)) 0 rfl rfl hu4 ?_; intro w7 hu7 hg7) | fail)
              have e1 : (((zs ++ [x]).length : Nat) : Int) = (zs.length : Int) + 1 := by simp
              have hst9 : Hid (Run1 w w7 (.slice ka2 (zs.length + 1) kc2) (.slice va2 (vs.length + 1) vc2) (k + 1) (zs ++ [x]) (vs ++ [y]) (r + (x + y))) :=
                ⟨q4.out.turnU hg7, ⟨by simp; exact h2.out, by simp; exact h3, by rw [← hcn.out]; simp⟩, hz2, hv2, by rw [e1]; exact hRh.out, by rw [e1]; exact hu7⟩
              go_roundw
              case rel => exact ⟨k + 1, zs ++ [x], vs ++ [y], r + (x + y), by go_num, by omega, by omega, hst9⟩
              case measure => simp [intOf]; omega
            · have ho : putN zs.length r 0 x 0 y ≠ 0 := fun h => hR (hok.1 h)
              rw [ans_no ho]
              simp only [rgt_false hR] at f3
              generalize putN zs.length r 0 x 0 y = o at *
              have ho1 : (o == 0) = false := by simpa using ho
              have ho2 : (o != 0) = true := by simpa using ho
              clear ho
              replace hu4 := heap_al hu4 (bU 0 0 0)
              replace hw4 := heap_al hw4 (bU 0 0 0)
              replace q4 := Hid.mk (q4.out.al (bU 0 0 0))
              obtain ⟨c0, c1, c2, cf⟩ := own3 hw4
              replace hok := Hid.mk hok
              replace hR := Hid.mk hR
              go_wp2_with fail
              refine (f3 _).mono ?_
              rintro e w6 ⟨rfl, hB6⟩
              clear c0 c1 c2 cf f3
              replace hu4 := heap_keep hu4 hB6
              replace q4 := Hid.mk (q4.out.keep hB6)
              clear hB6
              have hst9 : Hid (Aft1 w w6 (.slice ka2 (zs.length + 1) kc2)) := ⟨_, zs ++ [x], vs ++ [y], _, _, q4.out, fun z hz => siz_i64 (hz2 z hz), by simp; omega, hu4⟩
              go_wp2_with fail
              go_meet
              case rel => exact hst9
          · have hst2 : Hid (Run1 w (wr.alloc (bS x wx y)) u6 u7 (k + 1) zs vs r) := by
              obtain ⟨h1, ⟨h2, h3, h4⟩, h5, h6, h7, h8⟩ := hst.out
              exact ⟨h1.al _, ⟨h2, by omega, h4⟩, h5, h6, h7, heap_al h8 _⟩
            have h4 : x < 0 ∨ (¬ x < 0 ∧ 4000 < x) ∨ (¬ x < 0 ∧ ¬ 4000 < x ∧ y < 0) ∨ (¬ x < 0 ∧ ¬ 4000 < x ∧ ¬ y < 0 ∧ 4000 < y) := by
              unfold Siz at hsz
              omega
            clear hsz hst
            rcases h4 with h4 | ⟨h4, h5⟩ | ⟨h4, h5, h6⟩ | ⟨h4, h5, h6, h7⟩
            all_goals
              go_wp2
              go_roundw
              case rel => exact ⟨k + 1, zs, vs, r, by go_num, by omega, by omega, hst2⟩
              case measure => simp [intOf]; omega
        · go_wp2_with fail
          go_meet
          case rel => exact ⟨hst.out.aft hk2⟩
      · go_wp2_with fail
        go_meet
        case rel => exact ⟨hst.out.aft hk2⟩
  case rest =>
    obtain ⟨vv, zs, vs, m, r, q1, hz, hzl, hu⟩ := hcut.out
    clear hcut
    obtain ⟨ka, kc, rfl⟩ := own_shape q1.hk
    replace q1 := Hid.mk q1
    obtain ⟨ht0, ht1⟩ := ht
    replace hl := Hid.mk hl
    go_wp2_with (first | (refine wpList_store3 rfl _ _ rfl rfl _ 0 0 0 rfl rfl hu ?_; intro w1 hu1 hg1) | fail)
    have q2 := q1.out.turnU hg1
    clear q1 hu hg1
    replace q2 := Hid.mk q2
    go_loopw [13, 14] (fun nv j wr => ∃ (n i : Nat), nv = .int .i64 n ∧ j = .int .i64 i ∧ i ≤ 100 ∧ n ≤ 50 ∧ Hid (n = i ∨ (n = 50 ∧ 50 ≤ i)) ∧ Hid (Ql w wr (.slice ka zs.length kc) vv zs vs) ∧ Hid (wr.heap[w.heap.size]? = some (bU 0 0 n))) (fun _ j _ => (100 - intOf j).toNat)
    case atStart => exact ⟨0, 0, rfl, rfl, by omega, by omega, ⟨.inl rfl⟩, q2, ⟨hu1⟩⟩
    case round =>
      obtain ⟨n, i, rfl, rfl, hi, hn, hni, hq, hu⟩ := hrel
      obtain ⟨d0, d1, d2, df⟩ := own3 hu.out
      have fin : ∀ w9, Ql w w9 (.slice ka zs.length kc) vv zs vs → _ := fun w9 q9 => of_any (v := .slice none 0 0) (ks := []) w9 ⟨.inl ⟨.inl rfl, rfl⟩, by simp⟩ (ins_own q9.hk hz) (by simp) (by omega) (t := n) ⟨by omega, by omega⟩ (n := 0) ⟨by simp⟩ (d := 0) ⟨rfl⟩ (T := n) ⟨by unfold top; rw [if_neg (by omega), if_neg (by omega)]⟩
      rw [show ((0 : Nat) : Int) = 0 from rfl] at fin
      by_cases h1 : (i : Int) < t
      · by_cases h2 : i < 100
        · by_cases h3 : n < 50
          · have h3d : decide ((n : Int) < 50) = true := decide_eq_true (by omega)
            have f1 := fun w1 => armN_any (k := 0) (r := 0) (t := n) (o := 0) ⟨arm_more (by omega) (by omega)⟩ w1
            simp only [ans_ok] at f1
            go_wp2_with fail
            refine (f1 _).mono ?_
            rintro e w2 ⟨rfl, hB2⟩
            have hu2 := heap_al (heap_keep hu.out hB2) (bU 0 0 ((n : Int) + 1))
            have q3 := Hid.mk ((hq.out.keep hB2).al (bU 0 0 ((n : Int) + 1)))
            clear d0 d1 d2 df hB2 f1
            go_wp2_with (first | (refine wpList_store3 rfl _ _ rfl rfl _ 0 0 ((n : Int) + 1) rfl rfl hu2 ?_; intro w3 hu3 hg3) | fail)
            have q4 := Hid.mk (q3.out.turnU hg3)
            go_roundw
            case rel => exact ⟨n + 1, i + 1, by go_num, by go_num, by omega, by omega, ⟨by have := hni.out; omega⟩, q4, ⟨hu3⟩⟩
            case measure => simp [intOf]; omega
          · obtain rfl : n = 50 := by omega
            have f1 := fun w1 => armN_any (k := 0) (r := 0) (t := 50) (o := 113) ⟨arm_full⟩ w1
            simp only [ans_no (show (113 : Int) ≠ 0 by decide)] at f1
            go_wp2_with fail
            refine (f1 _).mono ?_
            rintro e w2 ⟨rfl, hB2⟩
            have hu2 := Hid.mk (heap_al (heap_keep hu.out hB2) (bU 0 0 0))
            have q3 := Hid.mk ((hq.out.keep hB2).al (bU 0 0 0))
            clear d0 d1 d2 df hB2 f1
            go_wp2
            go_roundw
            case rel => exact ⟨50, i + 1, rfl, by go_num, by omega, by omega, ⟨by have := hni.out; omega⟩, q3, hu2⟩
            case measure => simp [intOf]; omega
        · go_wp2_with fail
          refine (alive_any _).mono ?_
          rintro e w2 ⟨rfl, hB2⟩
          have hu2 := heap_keep hu.out hB2
          have q3 := hq.out.keep hB2
          clear d0 d1 d2 df hB2
          obtain ⟨d0, d1, d2, df⟩ := own3 hu2
          go_wp2_with fail
          refine (fin _ q3).mono ?_
          rintro e w3 ⟨rfl, hB3⟩
          go_wp2
          go_ret
          refine ⟨by simp, q3.be.trans (hB3.mono (by have := q3.sz; omega))⟩
      · go_wp2_with fail
        refine (alive_any _).mono ?_
        rintro e w2 ⟨rfl, hB2⟩
        have hu2 := heap_keep hu.out hB2
        have q3 := hq.out.keep hB2
        clear d0 d1 d2 df hB2
        obtain ⟨d0, d1, d2, df⟩ := own3 hu2
        go_wp2_with fail
        refine (fin _ q3).mono ?_
        rintro e w3 ⟨rfl, hB3⟩
        go_wp2
        go_ret
        refine ⟨by simp, q3.be.trans (hB3.mono (by have := q3.sz; omega))⟩
end Go.Proofs.Ytlnikgejcogkeaa
