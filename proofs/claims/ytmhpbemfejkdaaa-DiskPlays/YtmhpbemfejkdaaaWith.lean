/- belfryref03.with: a segment more, or in the place of the one of its number. -/
import Derived.Test.YtmhpbemfejkdaaaRsk
namespace Go.Proofs.Ytmhpbemfejkdaaa
open Go.RowKit Go.IntWalk Go.Maps Go.Sort
set_option linter.unusedVariables false
set_option linter.unusedSimpArgs false

theorem Try.info64 : (Try.prog.info? 64).map (fun i => (i.zero, i.size, i.bytes)) = some (some (.agg #[.int .i64 0, .slice none 0 0, .int .i64 0]), 3, 40) := by kernel_rfl
theorem rows_append (l m : List Sg) : rows (l ++ m) = rows l ++ rows m := by simp [rows]
theorem rows_one (x : Sg) : rows [x] = x.row := by simp [rows]
/-- 'append(out, x)', out the call's own segments. -/
theorem wpList_append_seg (w : World) {ops : Array Oper} {rest : List Oper} {o : Oper} {a : Act} {Q : Exit → Act → World → Prop}
    (hg : o.guard = none) (s y : Operand) (hop : o.op = Op.call { callee := Callee.builtin Builtin.append, args := #[s, y], argTypes := #[26, 26] })
    (base gb : Nat) (v : Value) (l : List Sg) (x : Sg) (sa : Option Addr) (sn sc : Nat) (hv : x.v = .slice sa sn sc) (hs : a.eval s = v) (hy : a.eval y = .slice (some ⟨gb, 0, none⟩) 1 1) (hown : w.ownsRow base 64 3 v l.length (rows l))
    (hc : ∀ j u, x.row[j]? = some u → w.cell? ⟨gb, j, none⟩ = some u) (b1 : l.length ≤ 1000) (b3 : base ≤ w.heap.size)
    (hK : ∀ v' w', w'.ownsRow base 64 3 v' (l ++ [x]).length (rows (l ++ [x])) → w.grownBy w' v.ownBlock → wpList Try.prog ops Q rest (a.put o.dst v') w') :
    wpList Try.prog ops Q (o :: rest) a w := by
  obtain ⟨i0, hi, hz0, hz1, hz2⟩ := info_parts Try.info64
  refine wpList_append_own w hg s y 26 hop base 64 i0 (.agg #[.int .i64 0, .slice none 0 0, .int .i64 0]) 3 40 Try.underlying26 hi hz0 hz1 hz2 rfl (by decide) v l.length (rows l) hs hown ⟨gb, 0, none⟩ 1 1 x.row hy rfl ?_ ?_ (by unfold maxLen; omega) (by omega) b3 ?_
  · intro j u hj
    have hadd : (⟨gb, 0, none⟩ : Addr).add j = ⟨gb, 0 + j, none⟩ := by unfold Addr.add; split <;> simp_all
    rw [hadd, Nat.zero_add]
    exact hc j u hj
  · intro u hu
    simp only [Sg.row, hv, List.mem_cons, List.not_mem_nil, or_false] at hu
    rcases hu with rfl | rfl | rfl <;> rfl
  · intro v' w' h1 h2 _
    refine hK v' w' ?_ h2
    rw [rows_append, rows_one, List.length_append]
    exact h1
/-- A disk's segments have turned. -/
theorem Rsk.turn {w : World} {rb : Nat} {N : Nat → Prop} {l l' : List Sg} {root : List Int} (h : Rsk w rb N l root) {v : Value} (hv : Rws N w v l') (hu : Up l') (hl : l'.length ≤ 128)
    (hs : ∀ x ∈ l', 0 ≤ x.n ∧ x.n < 9223372036854775808 ∧ x.b.length ≤ 1024 ∧ 0 ≤ x.s ∧ x.s ≤ x.b.length ∧ Btx N w x.v x.b) : Rsk (w.setCell ⟨rb, 0, none⟩ v) rb N l' root := by
  have hg2 := grown_setCell w ⟨rb, 0, none⟩ v
  have hns : ∀ k, some rb = some k → ¬ N k := fun k hk => by cases hk; exact h.nrb
  obtain ⟨sv, c0, _⟩ := h.c0
  obtain ⟨rv, c1, hr⟩ := h.c1
  have f0 := h.f0
  have f1 := h.f1
  refine ⟨⟨v, ?_, hv.grown hg2 hns⟩, ⟨rv, ?_, hr.grown hg2 hns⟩, ?_, ?_, h.nrb, hu, hl, fun x hx => ?_, h.rl⟩
  · go_simp
  · go_simp
  · go_simp
  · go_simp
  · obtain ⟨a1, a2, a3, a4, a5, a6⟩ := hs x hx
    exact ⟨a1, a2, a3, a4, a5, a6.grown hg2 hns⟩
set_option maxRecDepth 100000 in
set_option maxHeartbeats 2000000 in
/-- belfryref03.with. -/
theorem with_any (w : World) {rb : Nat} {N : Nat → Prop} {l : List Sg} {root : List Int} (h : Rsk w rb N l root) (n : Int) (sa : Option Addr) (sc : Nat) (zs : List Int) (s : Int) (hn0 : 0 ≤ n) (hn1 : n < 9223372036854775808) (hb1 : zs.length ≤ 1024) (hs0 : 0 ≤ s) (hs1 : s ≤ zs.length)
    (hb : Btx (Or_ N w) w (.slice sa zs.length sc) zs) (hlen : (getS n l).isSome = true ∨ l.length < 128) :
    Calls Try.prog 29 #[.pointer (some ⟨rb, 0, none⟩), .agg #[.int .i64 n, .slice sa zs.length sc, .int .i64 s]] w fun r w' => r = .returned (.tuple #[]) ∧ Rsk w' rb (Or_ N w) (putS ⟨n, .slice sa zs.length sc, zs, s⟩ l) root ∧ w.grownBy w' (some rb) := by
  have hl128 := h.len
  have hgA := World.grownBy_alloc w (.cells #[.int .i64 n, .slice sa zs.length sc, .int .i64 s] 64) none
  have q0 : (w.alloc (.cells #[.int .i64 n, .slice sa zs.length sc, .int .i64 s] 64)).cell? ⟨w.heap.size, 0, none⟩ = some (.int .i64 n) := by simp
  have q1 : (w.alloc (.cells #[.int .i64 n, .slice sa zs.length sc, .int .i64 s] 64)).cell? ⟨w.heap.size, 1, none⟩ = some (.slice sa zs.length sc) := by simp
  have q2 : (w.alloc (.cells #[.int .i64 n, .slice sa zs.length sc, .int .i64 s] 64)).cell? ⟨w.heap.size, 2, none⟩ = some (.int .i64 s) := by simp
  have hs0' := hgA.size
  go_enter Try.func29, Try.ntmps29
  go_wp2_with fail
  generalize w.alloc (.cells #[.int .i64 n, .slice sa zs.length sc, .int .i64 s] 64) = W0 at *
  have h0 := h.grown0 hgA
  obtain ⟨sv, c0, hsv⟩ := h0.c0
  obtain ⟨a, cap, rfl⟩ := hsv.shape
  go_loopw [4, 5] (fun v i wr => ∃ (j : Nat), j ≤ l.length ∧ i = .int .i64 j ∧ wr.ownsRow W0.heap.size 64 3 v ((l.take j).filter fun y => decide (y.n < n)).length (rows ((l.take j).filter fun y => decide (y.n < n))) ∧ W0.grownBy wr none)
    (fun _ i _ => l.length - (intOf i).toNat)
  case atStart => exact ⟨0, by omega, rfl, ⟨rfl, .inl ⟨rfl, rfl⟩⟩, grown_refl _⟩
  case round =>
    obtain ⟨j, hj, rfl, hown, hgr⟩ := hrel
    have c0r := grown_cell hgr c0
    have hws := hgr.size
    by_cases hjl : j < l.length
    · have hdj : decide ((j : Int) < (l.length : Int)) = true := by simp; omega
      obtain ⟨x, hx⟩ : ∃ x, l[j]? = some x := ⟨_, List.getElem?_eq_getElem hjl⟩
      have htk : l.take (j + 1) = l.take j ++ [x] := by rw [List.take_add_one, hx]; rfl
      obtain ⟨b, off, rfl, hN, hbl, d0, d1, d2⟩ := hsv.at hx
      have hxs := h0.seg x (List.mem_of_getElem? hx)
      obtain ⟨xa, xc, hxv⟩ := hxs.2.2.2.2.2.1.shape
      rw [hxv] at d1
      have d0 := grown_cell hgr d0
      have d1 := grown_cell hgr d1
      have d2 := grown_cell hgr d2
      have g0 := grown_cell hgr q0
      have hfl : ((l.take j).filter fun y => decide (y.n < n)).length ≤ 1000 := by
        have h1 := List.length_filter_le (fun y : Sg => decide (y.n < n)) (l.take j)
        have h2 := List.length_take_le j l
        skip
        skip
        omega
      by_cases hcn : x.n < n
      · have hdc : decide (x.n < n) = true := by simpa using hcn
        have hflt : ((l.take (j + 1)).filter fun y => decide (y.n < n)) = ((l.take j).filter fun y => decide (y.n < n)) ++ [x] := by rw [htk, List.filter_append]; simp [hcn]
        have HFL : Hid (((l.take (j + 1)).filter fun y => decide (y.n < n)) = ((l.take j).filter fun y => decide (y.n < n)) ++ [x]) := hflt
        clear hflt htk
        go_wp2_with fail
        haveI := lat_nonempty wr
        have e0 := lat_cell c0r
        have e1 := lat_cell d0
        have e2 := lat_cell g0
        refine wp_region_lat (by kernel_rfl) (by kernel_rfl) ?_
        repeat (go_big_quiet_step (fail))
        refine wpQuiet_nil ?_
        intro _ hw'
        obtain ⟨q, hw''⟩ := hw'
        subst hw''
        have hgq := q.h
        generalize q.W = w8 at hgq ⊢
        clear e0 e1 e2
        have c08 := grown_cell hgq c0r
        have d08 := grown_cell hgq d0
        have d18 := grown_cell hgq d1
        have d28 := grown_cell hgq d2
        have hq8 := hgq.size
        have hown8 := hown.kept hgq (by
          cases hob : Value.ownBlock _ with
          | none => exact .inl rfl
          | some k => exact .inr (by simp))
        go_wp2_with (first
          | (at_builtin; refine wpList_append_seg _ rfl (.tmp 27) (.tmp 35) rfl W0.heap.size w8.heap.size _ ((l.take j).filter fun y => decide (y.n < n)) x xa x.b.length xc hxv rfl rfl (hown8.alloc _) (by intro k u hu; rw [Sg.row, hxv] at hu; match k, hu with | 0, hu => (cases hu; simp) | 1, hu => (cases hu; simp) | 2, hu => (cases hu; simp) | k + 3, hu => simp at hu) hfl (by simp; omega) ?_; intro v9 w9 hown9 hg9)
          | go_in)
        go_roundw
        case rel =>
          refine ⟨j + 1, by omega, by go_num, ?_, ?_⟩
          · rw [HFL.out]
            skip
            exact hown9
          · exact (grown_none (grown_none hgr hgq) (World.grownBy_alloc w8 _ none)).andThen hg9 fun k hk => .inl (hown8.lt k hk).1
        case measure => simp [intOf]; omega
      · have hdc : decide (x.n < n) = false := by simpa using hcn
        have HFL : Hid (((l.take (j + 1)).filter fun y => decide (y.n < n)) = ((l.take j).filter fun y => decide (y.n < n))) := by
          show ((l.take (j + 1)).filter fun y => decide (y.n < n)) = ((l.take j).filter fun y => decide (y.n < n))
          rw [htk, List.filter_append]
          simp [hcn]
        clear htk
        go_wp2_with fail
        haveI := lat_nonempty wr
        have e0 := lat_cell c0r
        have e1 := lat_cell d0
        have e2 := lat_cell g0
        refine wp_region_lat (by kernel_rfl) (by kernel_rfl) ?_
        repeat (go_big_quiet_step (fail))
        refine wpQuiet_nil ?_
        intro _ hw'
        obtain ⟨q, hw''⟩ := hw'
        subst hw''
        have hgq := q.h
        generalize q.W = w8 at hgq ⊢
        clear e0 e1 e2
        have hown8 := hown.kept hgq (by
          cases hob : Value.ownBlock _ with
          | none => exact .inl rfl
          | some k => exact .inr (by simp))
        go_wp2
        go_roundw
        case rel =>
          refine ⟨j + 1, by omega, by go_num, ?_, grown_none hgr hgq⟩
          rw [HFL.out]
          exact hown8
        case measure => simp [intOf]; omega
    · have hdj : decide ((j : Int) < (l.length : Int)) = false := by simp; omega
      obtain rfl : j = l.length := by omega
      rw [List.take_length] at hown
      have g0m := grown_cell hgr q0
      have g1m := grown_cell hgr q1
      have g2m := grown_cell hgr q2
      have hfl0 : (l.filter fun y => decide (y.n < n)).length ≤ 1000 := by
        have h1 := List.length_filter_le (fun y : Sg => decide (y.n < n)) l
        omega
      go_wp2_with (first
        | (at_builtin; refine wpList_append_seg _ rfl (.tmp 37) (.tmp 39) rfl W0.heap.size wr.heap.size _ (l.filter fun y => decide (y.n < n)) (⟨n, .slice sa zs.length sc, zs, s⟩ : Sg) sa zs.length sc rfl rfl rfl (hown.alloc _) (by intro k u hu; match k, hu with | 0, hu => (cases hu; simp) | 1, hu => (cases hu; simp) | 2, hu => (cases hu; simp) | k + 3, hu => simp [Sg.row] at hu) hfl0 (by simp; omega) ?_; intro v4 w4 hown4 hg4)
        | go_in)
      have hgr4 : W0.grownBy w4 none := (grown_none hgr (World.grownBy_alloc wr _ none)).andThen hg4 fun k hk => .inl (hown.lt k hk).1
      clear hown
      go_loopw [4, 6] (fun v i wr => ∃ (j : Nat), j ≤ l.length ∧ i = .int .i64 j ∧ wr.ownsRow W0.heap.size 64 3 v ((l.filter (fun y => decide (y.n < n)) ++ [(⟨n, .slice sa zs.length sc, zs, s⟩ : Sg)]) ++ ((l.take j).filter fun y => decide (n < y.n))).length (rows ((l.filter (fun y => decide (y.n < n)) ++ [(⟨n, .slice sa zs.length sc, zs, s⟩ : Sg)]) ++ ((l.take j).filter fun y => decide (n < y.n)))) ∧ W0.grownBy wr none)
        (fun _ i _ => l.length - (intOf i).toNat)
      case atStart => exact ⟨0, by omega, rfl, by rw [List.take_zero, List.filter_nil, List.append_nil]; exact hown4, hgr4⟩
      case round =>
        obtain ⟨j, hj, rfl, hown, hgr⟩ := hrel
        have c0r := grown_cell hgr c0
        have hws := hgr.size
        by_cases hjl : j < l.length
        · have hdj : decide ((j : Int) < (l.length : Int)) = true := by simp; omega
          obtain ⟨x, hx⟩ : ∃ x, l[j]? = some x := ⟨_, List.getElem?_eq_getElem hjl⟩
          have htk : l.take (j + 1) = l.take j ++ [x] := by rw [List.take_add_one, hx]; rfl
          obtain ⟨b, off, rfl, hN, hbl, d0, d1, d2⟩ := hsv.at hx
          have hxs := h0.seg x (List.mem_of_getElem? hx)
          obtain ⟨xa, xc, hxv⟩ := hxs.2.2.2.2.2.1.shape
          rw [hxv] at d1
          have d0 := grown_cell hgr d0
          have d1 := grown_cell hgr d1
          have d2 := grown_cell hgr d2
          have g0 := grown_cell hgr q0
          have hfl : ((l.filter (fun y => decide (y.n < n)) ++ [(⟨n, .slice sa zs.length sc, zs, s⟩ : Sg)]) ++ ((l.take j).filter fun y => decide (n < y.n))).length ≤ 1000 := by
            have h1 := List.length_filter_le (fun y : Sg => decide (n < y.n)) (l.take j)
            have h2 := List.length_take_le j l
            have h3 := List.length_filter_le (fun y : Sg => decide (y.n < n)) l
            simp only [List.length_append, List.length_cons, List.length_nil]
            omega
          by_cases hcn : n < x.n
          · have hdc : decide (n < x.n) = true := by simpa using hcn
            have hflt : ((l.take (j + 1)).filter fun y => decide (n < y.n)) = ((l.take j).filter fun y => decide (n < y.n)) ++ [x] := by rw [htk, List.filter_append]; simp [hcn]
            have HFL : Hid (((l.take (j + 1)).filter fun y => decide (n < y.n)) = ((l.take j).filter fun y => decide (n < y.n)) ++ [x]) := hflt
            clear hflt htk
            go_wp2_with fail
            haveI := lat_nonempty wr
            have e0 := lat_cell c0r
            have e1 := lat_cell d0
            have e2 := lat_cell g0
            refine wp_region_lat (by kernel_rfl) (by kernel_rfl) ?_
            repeat (go_big_quiet_step (fail))
            refine wpQuiet_nil ?_
            intro _ hw'
            obtain ⟨q, hw''⟩ := hw'
            subst hw''
            have hgq := q.h
            generalize q.W = w8 at hgq ⊢
            clear e0 e1 e2
            have c08 := grown_cell hgq c0r
            have d08 := grown_cell hgq d0
            have d18 := grown_cell hgq d1
            have d28 := grown_cell hgq d2
            have hq8 := hgq.size
            have hown8 := hown.kept hgq (by
              cases hob : Value.ownBlock _ with
              | none => exact .inl rfl
              | some k => exact .inr (by simp))
            go_wp2_with (first
              | (at_builtin; refine wpList_append_seg _ rfl (.tmp 61) (.tmp 69) rfl W0.heap.size w8.heap.size _ ((l.filter (fun y => decide (y.n < n)) ++ [(⟨n, .slice sa zs.length sc, zs, s⟩ : Sg)]) ++ ((l.take j).filter fun y => decide (n < y.n))) x xa x.b.length xc hxv rfl rfl (hown8.alloc _) (by intro k u hu; rw [Sg.row, hxv] at hu; match k, hu with | 0, hu => (cases hu; simp) | 1, hu => (cases hu; simp) | 2, hu => (cases hu; simp) | k + 3, hu => simp at hu) hfl (by simp; omega) ?_; intro v9 w9 hown9 hg9)
              | go_in)
            go_roundw
            case rel =>
              refine ⟨j + 1, by omega, by go_num, ?_, ?_⟩
              · rw [HFL.out]
                rw [← List.append_assoc]
                exact hown9
              · exact (grown_none (grown_none hgr hgq) (World.grownBy_alloc w8 _ none)).andThen hg9 fun k hk => .inl (hown8.lt k hk).1
            case measure => simp [intOf]; omega
          · have hdc : decide (n < x.n) = false := by simpa using hcn
            have HFL : Hid (((l.take (j + 1)).filter fun y => decide (n < y.n)) = ((l.take j).filter fun y => decide (n < y.n))) := by
              show ((l.take (j + 1)).filter fun y => decide (n < y.n)) = ((l.take j).filter fun y => decide (n < y.n))
              rw [htk, List.filter_append]
              simp [hcn]
            clear htk
            go_wp2_with fail
            haveI := lat_nonempty wr
            have e0 := lat_cell c0r
            have e1 := lat_cell d0
            have e2 := lat_cell g0
            refine wp_region_lat (by kernel_rfl) (by kernel_rfl) ?_
            repeat (go_big_quiet_step (fail))
            refine wpQuiet_nil ?_
            intro _ hw'
            obtain ⟨q, hw''⟩ := hw'
            subst hw''
            have hgq := q.h
            generalize q.W = w8 at hgq ⊢
            clear e0 e1 e2
            have hown8 := hown.kept hgq (by
              cases hob : Value.ownBlock _ with
              | none => exact .inl rfl
              | some k => exact .inr (by simp))
            go_wp2
            go_roundw
            case rel =>
              refine ⟨j + 1, by omega, by go_num, ?_, grown_none hgr hgq⟩
              rw [HFL.out]
              exact hown8
            case measure => simp [intOf]; omega
        · have hdj : decide ((j : Int) < (l.length : Int)) = false := by simp; omega
          obtain rfl : j = l.length := by omega
          rw [List.take_length] at hown
          have hput : l.filter (fun y => decide (y.n < n)) ++ [(⟨n, .slice sa zs.length sc, zs, s⟩ : Sg)] ++ l.filter (fun y => decide (n < y.n)) = putS ⟨n, .slice sa zs.length sc, zs, s⟩ l := by simp [putS]
          rw [hput] at hown
          have hRr := h0.grown0 hgr
          have f0 := hRr.f0
          have hrb := h.rbl
          have hL := putS_length h.up ⟨n, .slice sa zs.length sc, zs, s⟩
          dsimp only at hL
          have hpl : (putS ⟨n, .slice sa zs.length sc, zs, s⟩ l).length ≤ 128 := by
            rw [hL]
            split
            · exact hl128
            · rcases hlen with hlen | hlen
              · contradiction
              · omega
          have hws0 := Rws.of_own hown
          obtain ⟨va, vc, hvv⟩ := hws0.shape
          have hupP := h.up.put ⟨n, .slice sa zs.length sc, zs, s⟩
          have hN' : ∀ k, N k → Or_ N w k := fun k hk => .inl hk
          have hnrb : ¬ Or_ N w rb := h.wide.nrb
          have hsegP : ∀ y ∈ putS ⟨n, .slice sa zs.length sc, zs, s⟩ l, 0 ≤ y.n ∧ y.n < 9223372036854775808 ∧ y.b.length ≤ 1024 ∧ 0 ≤ y.s ∧ y.s ≤ y.b.length ∧ Btx (Or_ N w) wr y.v y.b := fun y hy => by
            rcases mem_putS.1 hy with rfl | ⟨hy, _⟩
            · exact ⟨hn0, hn1, hb1, hs0, hs1, (hb.grown hgA (by simp)).grown hgr (by simp)⟩
            · obtain ⟨a1, a2, a3, a4, a5, a6⟩ := hRr.seg y hy
              exact ⟨a1, a2, a3, a4, a5, a6.mono hN'⟩
          have hTURN := (hRr.mono hN' hnrb).turn (hws0.mono fun k hk => .inr (by omega)) hupP hpl hsegP
          rw [hvv] at hTURN
          generalize (putS ⟨n, .slice sa zs.length sc, zs, s⟩ l).length = PL at hvv hTURN
          clear hL hput hsegP hupP hws0 hpl hown
          subst hvv
          go_wp2
          go_end0
          exact ⟨rfl, hTURN, grown_same (grown_none hgA hgr) (grown_setCell wr ⟨rb, 0, none⟩ _)⟩
end Go.Proofs.Ytmhpbemfejkdaaa
