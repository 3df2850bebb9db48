/- The document's list of timers: Find, Due, Ahead, Drop. -/
import Derived.Test.YtlljfgpmjpmoiaaScr
namespace Go.Proofs.Ytlljfgpmjpmoiaa
open Go.RowKit Go.IntWalk Go.Maps Go.Shelf
set_option linter.unusedVariables false
/-- What is due, and what is not, from the front. -/
def tkN (now : Int) (L : List E) : List E := L.takeWhile fun x => decide (x.at_ ≤ now)
def drN (now : Int) (L : List E) : List E := L.dropWhile fun x => decide (x.at_ ≤ now)
theorem tk_dr (now : Int) (L : List E) : tkN now L ++ drN now L = L := List.takeWhile_append_dropWhile
theorem tk_split {now : Int} {L T M : List E} (h : L = T ++ M) (hT : ∀ x ∈ T, x.at_ ≤ now) (hM : ∀ f M', M = f :: M' → ¬ f.at_ ≤ now) : tkN now L = T ∧ drN now L = M := by
  subst h
  induction T with
  | nil =>
    cases M with
    | nil => exact ⟨rfl, rfl⟩
    | cons f M' =>
      have := hM f M' rfl
      simp [tkN, drN, this]
  | cons a T ih =>
    have ha := hT a (by simp)
    obtain ⟨h1, h2⟩ := ih fun x hx => hT x (by simp [hx])
    simp only [tkN, drN] at h1 h2 ⊢
    simp [ha, h1, h2]
theorem tk_due {now : Int} {L : List E} (h : Srt L) : tkN now L = due now L ∧ drN now L = rst now L := by
  have hsp : L = due now L ++ rst now L := by
    refine h.eq ⟨List.pairwise_append.2 ⟨(h.due now).up, (h.rst now).up, fun x hx y hy => ?_⟩, fun x hx y hy e => ?_⟩ fun x => ?_
    · have h1 := (mem_due.1 hx).2
      have h2 := (mem_rst.1 hy).2
      exact .inl (by omega)
    · have hL : ∀ z, z ∈ due now L ++ rst now L → z ∈ L := fun z hz => by
        rcases List.mem_append.1 hz with h | h
        · exact (mem_due.1 h).1
        · exact (mem_rst.1 h).1
      exact h.un x (hL x hx) y (hL y hy) e
    · rw [List.mem_append, mem_due, mem_rst]
      constructor
      · intro hx
        by_cases h2 : x.at_ ≤ now
        · exact .inl ⟨hx, h2⟩
        · exact .inr ⟨hx, by omega⟩
      · rintro (h | h)
        · exact h.1
        · exact h.1
  exact tk_split hsp (fun x hx => (mem_due.1 hx).2) fun f M' e => by
    have : f ∈ rst now L := by rw [e]; simp
    have := (mem_rst.1 this).2
    omega
/-- A list of the document's entries that can be read. -/
def Lc (w : World) (v : Value) (L : List E) : Prop :=
  ((v = .slice none 0 0 ∨ ∃ ad cap, v = .slice (some ad) 0 cap) ∧ L = []) ∨ ∃ b off cap, v = .slice (some ⟨b, off, none⟩) L.length cap ∧ b < w.heap.size ∧ L.length ≤ cap ∧ cap ≤ maxLen ∧
    ∀ (j : Nat) (e : E), L[j]? = some e → w.cell? ⟨b, off + j * 2, none⟩ = some (.string e.n) ∧ w.cell? ⟨b, off + j * 2 + 1, none⟩ = some (.int .u64 e.at_)
theorem Lc.shape {w : World} {v : Value} {L : List E} (h : Lc w v L) : ∃ a cap, v = .slice a L.length cap := by
  obtain ⟨rfl | ⟨ad, cap, rfl⟩, rfl⟩ | ⟨b, off, cap, rfl, _⟩ := id h
  · exact ⟨_, _, rfl⟩
  · exact ⟨_, _, rfl⟩
  · exact ⟨_, _, rfl⟩
theorem Lc.at {w : World} {a : Option Addr} {len cap : Nat} {L : List E} (h : Lc w (.slice a len cap) L) {j : Nat} {e : E} (hj : L[j]? = some e) :
    ∃ b off, a = some ⟨b, off, none⟩ ∧ b < w.heap.size ∧ w.cell? ⟨b, off + j * 2, none⟩ = some (.string e.n) ∧ w.cell? ⟨b, off + j * 2 + 1, none⟩ = some (.int .u64 e.at_) := by
  obtain ⟨_, rfl⟩ | ⟨b, off, c, e, hb, hl, hm, hc⟩ := h
  · simp at hj
  · simp only [Value.slice.injEq] at e
    exact ⟨b, off, e.1, hb, hc j _ hj⟩
theorem Lc.of_row {t : TypeId} {w : World} {v : Value} {L : List E} (h : Rw t w v L) : Lc w v L := by
  rcases id h.2 with ⟨e1, h0⟩ | ⟨g, c, cur, e1, _, hg, hn, hm, _⟩
  · exact .inl ⟨.inl e1, List.eq_nil_of_length_eq_zero h0⟩
  · subst e1
    refine .inr ⟨g, 0, c, rfl, (Array.getElem?_eq_some_iff.1 hg).1, hn, hm, fun j e hj => ?_⟩
    obtain ⟨g', e', _, _, k1, k2, _⟩ := h.at hj
    cases e'
    simp only [Nat.zero_add]
    exact ⟨k1, k2⟩
theorem Lc.grown0 {w w' : World} {v : Value} {L : List E} (h : Lc w v L) (hg : w.grownBy w' none) : Lc w' v L := by
  rcases h with e | ⟨b, off, c, e, hb, hl, hm, hc⟩
  · exact .inl e
  · exact .inr ⟨b, off, c, e, Nat.lt_of_lt_of_le hb hg.size, hl, hm, fun j x hj => ⟨grown_cell hg (hc j x hj).1, grown_cell hg (hc j x hj).2⟩⟩
theorem str_beq {a b : ByteArray} : (a.toList == b.toList) = decide (a = b) := by
  rw [Bool.eq_iff_iff]
  simp only [beq_iff_eq, decide_eq_true_eq]
  exact ⟨ba_inj, fun h => by rw [h]⟩
set_option maxRecDepth 100000 in
set_option maxHeartbeats 1000000 in
/-- belfryref06.Find. -/
theorem find_any (w : World) {v : Value} {L : List E} (h : Lc w v L) (hl : L.length ≤ 100000) (n : ByteArray) : Calls Try.prog 29 #[v, .string n] w fun r w' => ∃ i : Int, r = .returned (.int .i64 i) ∧ Hid (decide (i ≥ 0) = hasN n L) ∧ w' = w := by
  obtain ⟨a, cap, rfl⟩ := h.shape
  go_enter Try.func29, Try.ntmps29
  go_wp2_with fail
  go_loop [5] (fun i => ∃ k : Nat, k ≤ L.length ∧ i = .int .i64 k ∧ Hid (∀ x ∈ L.take k, x.n ≠ n))
    (fun i => L.length - (intOf i).toNat)
  case atStart => exact ⟨0, by omega, rfl, ⟨by simp⟩⟩
  case round =>
    obtain ⟨k, hk, rfl, hno⟩ := hrel
    by_cases hlt : k < L.length
    · have hd : decide ((k : Int) < L.length) = true := by simp; omega
      obtain ⟨x, hx⟩ := some_at hlt
      obtain ⟨b, off, rfl, _, c0, c1⟩ := h.at hx
      by_cases hn : x.n = n
      · have hq : (x.n.toList == n.toList) = true := by rw [str_beq]; simpa using hn
        have hfin : Hid (decide ((k : Int) ≥ 0) = hasN n L) := ⟨by rw [hasN_iff.2 ⟨x, List.mem_of_getElem? hx, hn⟩]; simp⟩
        clear hn
        replace hx : Hid _ := ⟨hx⟩
        go_wp2_with fail
        go_ret
        exact ⟨_, rfl, hfin, rfl⟩
      · have hq : (x.n.toList == n.toList) = false := by rw [str_beq]; simpa using hn
        have hno2 : Hid (∀ y ∈ L.take (k + 1), y.n ≠ n) := ⟨fun y hy => by
          rw [List.take_add_one, hx] at hy
          rcases List.mem_append.1 hy with hy | hy
          · exact hno.out y hy
          · simp at hy; subst hy; exact hn⟩
        clear hn
        replace hx : Hid _ := ⟨hx⟩
        go_wp2_with fail
        go_round
        case rel => exact ⟨k + 1, by omega, by go_num, hno2⟩
        case measure => simp [intOf]; omega
    · have hd : decide ((k : Int) < L.length) = false := by simp; omega
      have hfin : Hid (decide ((-1 : Int) ≥ 0) = hasN n L) := ⟨by
        have h1 := hno.out
        rw [List.take_of_length_le (by omega)] at h1
        rw [hasN_not.2 h1]; rfl⟩
      go_wp2_with fail
      go_ret
      exact ⟨_, rfl, hfin, rfl⟩
set_option maxRecDepth 100000 in
set_option maxHeartbeats 1000000 in
/-- belfryref06.Due. -/
theorem rdue_any (w : World) {v : Value} {L : List E} (h : Lc w v L) (hl : L.length ≤ 100000) (now : Int) : Calls Try.prog 34 #[v, .int .u64 now] w fun r w' => r = .returned (.int .i64 (tkN now L).length) ∧ w' = w := by
  obtain ⟨a, cap, rfl⟩ := h.shape
  obtain ⟨T, hT⟩ : ∃ T, Hid (tkN now L = T) := ⟨_, ⟨rfl⟩⟩
  rw [hT.out]
  go_enter Try.func34, Try.ntmps34
  go_wp2_with fail
  go_loop [5] (fun i => ∃ k : Nat, k ≤ L.length ∧ i = .int .i64 k ∧ Hid (∀ x ∈ L.take k, x.at_ ≤ now))
    (fun i => L.length - (intOf i).toNat)
  case atStart => exact ⟨0, by omega, rfl, ⟨by simp⟩⟩
  case round =>
    obtain ⟨k, hk, rfl, hno⟩ := hrel
    have hsp : Hid ((∀ f M', L.drop k = f :: M' → ¬ f.at_ ≤ now) → T.length = k) := ⟨fun hM => by
      have := (tk_split (now := now) (L := L) (T := L.take k) (M := L.drop k) (by simp) hno.out hM).1
      rw [← hT.out, this, List.length_take]; omega⟩
    by_cases hlt : k < L.length
    · have hd : decide ((k : Int) < L.length) = true := by simp; omega
      obtain ⟨x, hx⟩ := some_at hlt
      obtain ⟨b, off, rfl, _, c0, c1⟩ := h.at hx
      by_cases hn : x.at_ ≤ now
      · have hq : decide (x.at_ ≤ now) = true := by simpa using hn
        have hno2 : Hid (∀ y ∈ L.take (k + 1), y.at_ ≤ now) := ⟨fun y hy => by
          rw [List.take_add_one, hx] at hy
          rcases List.mem_append.1 hy with hy | hy
          · exact hno.out y hy
          · simp at hy; subst hy; exact hn⟩
        replace hx : Hid _ := ⟨hx⟩
        replace hn : Hid _ := ⟨hn⟩
        go_wp2_with fail
        go_round
        case rel => exact ⟨k + 1, by omega, by go_num, hno2⟩
        case measure => simp [intOf]; omega
      · have hq : decide (x.at_ ≤ now) = false := by simpa using hn
        have hTl : Hid (T.length = k) := ⟨hsp.out fun f M' e => by
          obtain ⟨g, hg, h2⟩ := drop_cons hlt
          rw [hx] at hg; cases hg
          rw [h2] at e; cases e; exact hn⟩
        replace hx : Hid _ := ⟨hx⟩
        replace hn : Hid _ := ⟨hn⟩
        go_wp2_with fail
        go_ret
        exact ⟨by rw [hTl.out]; rfl, rfl⟩
    · have hd : decide ((k : Int) < L.length) = false := by simp; omega
      have hTl : Hid (T.length = k) := ⟨hsp.out fun f M' e => by
        rw [List.drop_eq_nil_of_le (by omega)] at e; cases e⟩
      go_wp2_with fail
      go_ret
      exact ⟨by rw [hTl.out]; rfl, rfl⟩
set_option maxRecDepth 100000 in
set_option maxHeartbeats 1000000 in
/-- belfryref06.Ahead. -/
theorem rahead_any (a b : E) (w : World) : Calls Try.prog 42 #[.agg #[.string a.n, .int .u64 a.at_], .agg #[.string b.n, .int .u64 b.at_]] w fun e w' => e = .returned (.bool (ltb a b)) ∧ w.grownBy w' none := by
  obtain ⟨an, aa⟩ := a
  obtain ⟨bn, ba⟩ := b
  dsimp only
  have hg := grown_none (World.grownBy_alloc w (.cells #[.string an, .int .u64 aa] 45) none) (World.grownBy_alloc _ (.cells #[.string bn, .int .u64 ba] 45) none)
  by_cases h1 : aa < ba
  · have hd : decide (aa < ba) = true := by simpa using h1
    have hl : Hid (ltb ⟨an, aa⟩ ⟨bn, ba⟩ = true) := ⟨by simp [ltb, h1]⟩
    go_enter Try.func42, Try.ntmps42
    go_wp2
    go_ret
    exact ⟨by rw [hl.out]; rfl, hg⟩
  · have hd : decide (aa < ba) = false := by simpa using h1
    by_cases h2 : aa = ba
    · subst h2
      have hl : Hid (ltb ⟨an, aa⟩ ⟨bn, aa⟩ = Op.bytesLess an.toList bn.toList) := ⟨by rw [bytesLess_eq]; simp [ltb]⟩
      go_enter Try.func42, Try.ntmps42
      go_wp2
      go_ret
      exact ⟨by rw [hl.out]; rfl, hg⟩
    · have he : (aa == ba) = false := by simpa using h2
      have hl : Hid (ltb ⟨an, aa⟩ ⟨bn, ba⟩ = false) := ⟨by simp [ltb, h1, h2]⟩
      go_enter Try.func42, Try.ntmps42
      go_wp2
      go_ret
      exact ⟨by rw [hl.out]; rfl, hg⟩
theorem Try.info45 : (Try.prog.info? 45).map (fun i => (i.zero, i.size, i.bytes)) = some (some (.agg #[.string ByteArray.empty, .int .u64 0]), 2, 24) := by kernel_rfl
/-- 'append(l, e)', e anywhere in memory. -/
theorem run_append_ref (w : World) (rv : Value) (es : List E) (e : E) (B : Nat) (hB : w.cell? ⟨B, 0, none⟩ = some (.string e.n) ∧ w.cell? ⟨B, 1, none⟩ = some (.int .u64 e.at_)) (hrow : Rw 45 w rv es) (hl : es.length ≤ 100000) (ty : TypeId) :
    ∃ a cap w', (Builtin.append_ #[27, 27] ty #[rv, .slice (some ⟨B, 0, none⟩) 1 1]).run Try.prog w = .ok (.slice a (es.length + 1) cap) w' ∧ Rw 45 w' (.slice a (es.length + 1) cap) (es ++ [e]) ∧ w.grownBy w' rv.ownBlock ∧
      ((Value.slice a (es.length + 1) cap).ownBlock = rv.ownBlock ∨ ∃ k, (Value.slice a (es.length + 1) cap).ownBlock = some k ∧ w.heap.size ≤ k) := by
  obtain ⟨i0, hi, hz0, hz1, hz2⟩ := info_parts Try.info45
  obtain ⟨v', w', hrun, h1, h2, _, h4⟩ := run_append_own_at (P := Try.prog) (w := w) 0 27 ty 45 i0 (.agg #[.string ByteArray.empty, .int .u64 0]) 2 24 Try.underlying27 hi hz0 hz1 hz2 rfl (by decide) rv es.length _ hrow ⟨B, 0, none⟩ 1 1 e.cells rfl (fun j u hj => by
    rw [addr_add, Nat.zero_add]
    match j, hj with
    | 0, hj => simp [E.cells] at hj; subst hj; exact hB.1
    | 1, hj => simp [E.cells] at hj; subst hj; exact hB.2
    | j + 2, hj => simp [E.cells] at hj) (fun u hu => by
    simp only [E.cells, List.mem_cons, List.not_mem_nil, or_false] at hu
    rcases hu with rfl | rfl <;> rfl) (by unfold maxLen; omega) (by omega) (by omega)
  have hlen : (es ++ [e]).length = es.length + 1 := by simp
  have hce : cellsE es ++ e.cells = cellsE (es ++ [e]) := by rw [cellsE_app]; simp [cellsE]
  rw [hce] at h1
  obtain ⟨a, cap, rfl⟩ : ∃ a cap, v' = .slice a (es.length + 1) cap := by
    rcases h1.2 with ⟨_, h0⟩ | ⟨g, c, cur, e1, _⟩
    · omega
    · exact ⟨_, _, e1⟩
  refine ⟨a, cap, w', hrun, by unfold Rw; rw [hlen]; exact h1, h2, ?_⟩
  rcases h4 with h4 | h4
  · exact .inl h4
  · exact .inr ⟨_, h4, by simp⟩
set_option maxRecDepth 100000 in
set_option maxHeartbeats 1000000 in
/-- belfryref06.Drop. -/
theorem rdrop_any (w : World) {v : Value} {L : List E} (h : Lc w v L) (hl : L.length ≤ 100000) (n : ByteArray) : Calls Try.prog 30 #[v, .string n] w fun r w' => ∃ a cap, r = .returned (.slice a (delN n L).length cap) ∧ Rw 45 w' (.slice a (delN n L).length cap) (delN n L) ∧ w.grownBy w' none ∧ ∀ k, (Value.slice a (delN n L).length cap).ownBlock = some k → w.heap.size ≤ k := by
  obtain ⟨a, cap, rfl⟩ := h.shape
  go_enter Try.func30, Try.ntmps30
  go_wp2_with fail
  go_loopw [5, 6] (fun o i wr => ∃ (k : Nat) (oa : Option Addr) (oc : Nat) (M : List E), k ≤ L.length ∧ o = .slice oa M.length oc ∧ i = .int .i64 k ∧ Hid (M = delN n (L.take k)) ∧ Hid (Rw 45 wr (.slice oa M.length oc) M ∧ w.grownBy wr none ∧ ∀ j, (Value.slice oa M.length oc).ownBlock = some j → w.heap.size ≤ j))
    (fun _ i _ => L.length - (intOf i).toNat)
  case atStart => exact ⟨0, none, 0, [], by omega, rfl, rfl, ⟨by simp [delN]⟩, ⟨World.ownsRow_nil _ _ _ _, grown_refl w, by simp [Value.ownBlock]⟩⟩
  case round =>
    obtain ⟨k, oa, oc, M, hk, rfl, rfl, hMe, hR⟩ := hrel
    have hMl : M.length ≤ 100000 := by
      have := delN_le n (L.take k)
      rw [← hMe.out, List.length_take] at this
      omega
    by_cases hlt : k < L.length
    · have hd : decide ((k : Int) < L.length) = true := by simp; omega
      obtain ⟨x, hx⟩ := some_at hlt
      obtain ⟨b, off, rfl, _, c0, c1⟩ := (h.grown0 hR.out.2.1).at hx
      by_cases hn : x.n = n
      · have hq : (x.n.toList == n.toList) = true := by rw [str_beq]; simpa using hn
        have hMe2 : Hid (M = delN n (L.take (k + 1))) := ⟨by rw [List.take_add_one, hx, hMe.out]; simp [delN, hn]⟩
        clear hn
        replace hx : Hid _ := ⟨hx⟩
        go_wp2_with fail
        go_roundw
        case rel => exact ⟨k + 1, oa, oc, M, by omega, rfl, by go_num, hMe2, hR⟩
        case measure => simp [intOf]; omega
      · have hq : (x.n.toList == n.toList) = false := by rw [str_beq]; simpa using hn
        have hMe2 : Hid (M ++ [x] = delN n (L.take (k + 1))) := ⟨by rw [List.take_add_one, hx, hMe.out]; simp [delN, hn]⟩
        have hg1 := World.grownBy_alloc wr (.cells #[.string x.n, .int .u64 x.at_] 45) none
        obtain ⟨oa', oc', w2, hrun, hr2, hg2, ho2⟩ := run_append_ref (wr.alloc (.cells #[.string x.n, .int .u64 x.at_] 45)) (.slice oa M.length oc) M x wr.heap.size ⟨by simp, by simp⟩ (World.ownsRow.kept hR.out.1 hg1 (Classical.em _)) hMl 27
        have hR2 : Hid (Rw 45 w2 (.slice oa' (M ++ [x]).length oc') (M ++ [x]) ∧ w.grownBy w2 none ∧ ∀ j, (Value.slice oa' (M ++ [x]).length oc').ownBlock = some j → w.heap.size ≤ j) := by
          have hlen : (M ++ [x]).length = M.length + 1 := by simp
          have hw := hR.out.2.1.size
          rw [hlen]
          refine ⟨hr2, ?_, fun j hj => ?_⟩
          · have h3 := grown_none hR.out.2.1 hg1
            exact h3.andThen hg2 fun j hj => .inl (hR.out.2.2 j hj)
          · rcases ho2 with ho | ⟨i, hi, hil⟩
            · exact hR.out.2.2 j (by rw [← ho]; exact hj)
            · rw [hi] at hj; cases hj; simp at hil; omega
        clear hn hr2 ho2
        replace hx : Hid _ := ⟨hx⟩
        replace hg2 : Hid _ := ⟨hg2⟩
        go_wp2_with (at_builtin; refine wpList_append_run rfl _ _ 27 rfl _ _ rfl rfl hrun ?_)
        go_roundw
        case rel => exact ⟨k + 1, oa', oc', M ++ [x], by omega, by simp, by go_num, hMe2, hR2⟩
        case measure => simp [intOf]; omega
    · have hd : decide ((k : Int) < L.length) = false := by simp; omega
      have hMe2 : Hid (delN n L = M) := ⟨by rw [hMe.out, List.take_of_length_le (by omega)]⟩
      go_wp2_with fail
      go_ret
      rw [hMe2.out]
      exact ⟨_, _, rfl, hR.out⟩
end Go.Proofs.Ytlljfgpmjpmoiaa
