/- A log's segments on its disk, in plain words: bytes by rising numbers, the starts, what power leaves of them. -/
import Derived.Test.YtgblekdllcngnaaPow
import Derived.Test.YtgblekdllcngnaaFrm
import Derived.Test.YtgblekdllcngnaaOpn
import Derived.Test.YtgblekdllcngnaaRtr
namespace Go.Proofs.Ytgblekdllcngnaa
open Go.RowKit Go.IntWalk Plain
set_option linter.unusedVariables false

/-- The segments from seg on, with these bytes. -/
def Sq (seg : Int) (bs : List (List Int)) (l : List Sg) : Prop := l.length = bs.length ∧ ∀ (i : Nat) (x : Sg), l[i]? = some x → x.n = seg + (i : Int) ∧ bs[i]? = some x.b
section
variable {seg : Int} {bs : List (List Int)} {l : List Sg}
theorem Sq.up (h : Sq seg bs l) : Up l := by
  unfold Up; rw [List.pairwise_iff_getElem]; intro i j hi hj hij
  have h1 := (h.2 i _ (List.getElem?_eq_getElem hi)).1
  have h2 := (h.2 j _ (List.getElem?_eq_getElem hj)).1
  omega
theorem Sq.get (h : Sq seg bs l) {i : Nat} (hi : i < bs.length) : ∃ x, l[i]? = some x ∧ getS (seg + (i : Int)) l = some x ∧ bs[i]? = some x.b := by
  have hi' : i < l.length := by rw [h.1]; exact hi
  have e := List.getElem?_eq_getElem hi'
  refine ⟨l[i], e, ?_, (h.2 i _ e).2⟩
  rw [getS_iff h.up]; exact ⟨List.getElem_mem hi', (h.2 i _ e).1⟩
theorem Sq.no (h : Sq seg bs l) {k : Int} (hk : k < seg ∨ seg + bs.length ≤ k) : getS k l = none := by
  cases e : getS k l with
  | none => rfl
  | some x =>
    obtain ⟨hm, hn⟩ := getS_mem e
    obtain ⟨i, hi, e2⟩ := List.mem_iff_getElem.1 hm
    have := (h.2 i _ (List.getElem?_eq_getElem hi)).1
    rw [e2] at this
    rw [h.1] at hi; omega
theorem Sq.snoc (h : Sq seg bs l) {x : Sg} (hx : x.n = seg + bs.length) : putS x l = l ++ [x] ∧ Sq seg (bs ++ [x.b]) (l ++ [x]) := by
  refine ⟨putS_last fun y hy => ?_, by simp [h.1], fun i y hy => ?_⟩
  · obtain ⟨i, hi, rfl⟩ := List.mem_iff_getElem.1 hy
    have := (h.2 i _ (List.getElem?_eq_getElem hi)).1
    rw [h.1] at hi; omega
  · by_cases hi : i < l.length
    · rw [List.getElem?_append_left hi] at hy
      have := h.2 i y hy
      refine ⟨this.1, ?_⟩
      rw [List.getElem?_append_left (by rw [← h.1]; exact hi)]; exact this.2
    · rw [List.getElem?_append_right (by omega)] at hy
      obtain ⟨rfl, h0⟩ : y = x ∧ i - l.length = 0 := by
        cases hn : i - l.length with
        | zero => rw [hn] at hy; simp at hy; exact ⟨hy.symm, rfl⟩
        | succ n => rw [hn] at hy; simp at hy
      obtain rfl : i = l.length := by omega
      refine ⟨by rw [hx, h.1], ?_⟩
      rw [h.1]; simp
theorem filter_left {α : Type} (l : List α) (p : α → Bool) (i : Nat) (h1 : ∀ y ∈ l.take i, p y = true) (h2 : ∀ y ∈ l.drop i, p y = false) : l.filter p = l.take i := by
  conv => lhs; rw [← List.take_append_drop i l]
  rw [List.filter_append, List.filter_eq_self.2 h1, List.filter_eq_nil_iff.2 (fun y hy => by rw [h2 y hy]; simp), List.append_nil]
theorem filter_right {α : Type} (l : List α) (p : α → Bool) (i : Nat) (h1 : ∀ y ∈ l.take i, p y = false) (h2 : ∀ y ∈ l.drop i, p y = true) : l.filter p = l.drop i := by
  conv => lhs; rw [← List.take_append_drop i l]
  rw [List.filter_append, List.filter_eq_self.2 h2, List.filter_eq_nil_iff.2 (fun y hy => by rw [h1 y hy]; simp), List.nil_append]
theorem Sq.lo (h : Sq seg bs l) (i : Nat) : ∀ y ∈ l.take i, y.n < seg + i := by
  intro y hy
  obtain ⟨j, hj, rfl⟩ := List.mem_iff_getElem.1 hy
  have hj2 : j < min i l.length := by simpa using hj
  rw [List.getElem_take]
  have := (h.2 j _ (List.getElem?_eq_getElem (by omega : j < l.length))).1
  omega
theorem Sq.hi (h : Sq seg bs l) (i : Nat) : ∀ y ∈ l.drop i, seg + i ≤ y.n := by
  intro y hy
  obtain ⟨j, hj, rfl⟩ := List.mem_iff_getElem.1 hy
  have hj2 : j < l.length - i := by simpa using hj
  rw [List.getElem_drop]
  have := (h.2 (i + j) _ (List.getElem?_eq_getElem (by omega : i + j < l.length))).1
  omega
theorem Sq.at (h : Sq seg bs l) {i : Nat} {x : Sg} (hi : i < bs.length) (hx : x.n = seg + (i : Int)) : putS x l = l.set i x ∧ Sq seg (bs.set i x.b) (l.set i x) := by
  have hi' : i < l.length := by rw [h.1]; exact hi
  refine ⟨?_, by simp [h.1], fun j y hy => ?_⟩
  · unfold putS
    rw [filter_left l _ i (fun y hy => by have := h.lo i y hy; simp; omega) (fun y hy => by have := h.hi i y hy; simp; omega),
      filter_right l _ (i + 1) (fun y hy => by have := h.lo (i + 1) y hy; simp; omega) (fun y hy => by have := h.hi (i + 1) y hy; simp; omega),
      List.set_eq_take_append_cons_drop, if_pos hi']
  · by_cases hj : j = i
    · subst hj
      rw [List.getElem?_set_self hi'] at hy
      cases hy
      exact ⟨hx, by rw [List.getElem?_set_self hi]⟩
    · rw [List.getElem?_set_ne (by omega)] at hy ⊢
      exact h.2 j y hy
theorem Sq.drop (h : Sq seg bs l) (j : Nat) : Sq (seg + j) (bs.drop j) (l.drop j) := by
  refine ⟨by simp [h.1], fun i x hx => ?_⟩
  rw [List.getElem?_drop] at hx ⊢
  have := h.2 _ x hx
  exact ⟨by omega, this.2⟩
theorem Sq.take (h : Sq seg bs l) (j : Nat) : Sq seg (bs.take j) (l.take j) := by
  refine ⟨by simp [h.1], fun i x hx => ?_⟩
  by_cases hi : i < j
  · rw [List.getElem?_take_of_lt hi] at hx ⊢
    exact h.2 _ x hx
  · rw [List.getElem?_eq_none (by simp; omega)] at hx; cases hx
theorem Sq.del_first (h : Sq seg bs l) : delS seg l = l.drop 1 := by
  unfold delS
  refine filter_right l _ 1 (fun y hy => ?_) (fun y hy => ?_)
  · obtain ⟨j, hj, rfl⟩ := List.mem_iff_getElem.1 hy
    have hj2 : j < min 1 l.length := by simpa using hj
    rw [List.getElem_take]
    have := (h.2 j _ (List.getElem?_eq_getElem (by omega : j < l.length))).1
    simp; omega
  · have := h.hi 1 y hy; simp; omega
end

/-- The numbers of the segments' first records, by how many each has. -/
def stC (fs : Nat) : List Nat → List Int
  | [] => []
  | c :: cs => (fs : Int) :: stC (fs + c) cs
theorem stC_length : ∀ (cs : List Nat) (fs : Nat), (stC fs cs).length = cs.length
  | [], _ => rfl
  | c :: cs, fs => by rw [stC, List.length_cons, stC_length cs, List.length_cons]
theorem stC_snoc : ∀ (cs : List Nat) (fs c : Nat), stC fs (cs ++ [c]) = stC fs cs ++ [((fs + cs.sum : Nat) : Int)]
  | [], fs, c => by simp [stC]
  | d :: cs, fs, c => by rw [List.cons_append, stC, stC_snoc cs, stC, List.cons_append, List.sum_cons, Nat.add_assoc]
theorem stC_get : ∀ (cs : List Nat) (fs i : Nat), i < cs.length → (stC fs cs)[i]? = some ((fs + (cs.take i).sum : Nat) : Int)
  | [], _, i, h => by simp at h
  | c :: cs, fs, 0, h => by simp [stC]
  | c :: cs, fs, i + 1, h => by
    rw [stC, List.getElem?_cons_succ, stC_get cs _ i (by simpa using h), List.take_succ_cons, List.sum_cons, Nat.add_assoc]
theorem stC_drop : ∀ (cs : List Nat) (fs G : Nat), (stC fs cs).drop G = stC (fs + (cs.take G).sum) (cs.drop G)
  | [], _, G => by simp [stC]
  | c :: cs, fs, 0 => by simp
  | c :: cs, fs, G + 1 => by
    rw [stC, List.drop_succ_cons, stC_drop cs, List.take_succ_cons, List.sum_cons, List.drop_succ_cons, Nat.add_assoc]
theorem stC_lo : ∀ (cs : List Nat) (fs : Nat), ∀ z ∈ stC fs cs, (fs : Int) ≤ z
  | [], _, z, h => by simp [stC] at h
  | c :: cs, fs, z, h => by
    rw [stC, List.mem_cons] at h
    rcases h with rfl | h
    · omega
    · have := stC_lo cs _ z h; omega
theorem stC_up : ∀ (cs : List Nat) (fs : Nat), (∀ c ∈ cs.dropLast, 0 < c) → (stC fs cs).Pairwise (· < ·)
  | [], _, _ => List.Pairwise.nil
  | [c], fs, _ => by simp [stC]
  | c :: d :: cs, fs, h => by
    rw [stC, List.pairwise_cons]
    refine ⟨fun z hz => ?_, stC_up (d :: cs) _ fun x hx => h x (by rw [List.dropLast_cons_cons]; exact List.mem_cons_of_mem _ hx)⟩
    have h1 := stC_lo _ _ z hz
    have h2 := h c (by rw [List.dropLast_cons_cons]; exact List.mem_cons_self)
    omega
/-- How many records each group has. -/
def cs (gs : List (List (List Int))) : List Nat := gs.map List.length
theorem cs_length (gs : List (List (List Int))) : (cs gs).length = gs.length := by simp [cs]
theorem cs_sum (gs : List (List (List Int))) : (cs gs).sum = gs.flatten.length := by simp [cs, List.length_flatten]
theorem cs_append (a b : List (List (List Int))) : cs (a ++ b) = cs a ++ cs b := by simp [cs]
theorem cs_take (gs : List (List (List Int))) (i : Nat) : (cs gs).take i = cs (gs.take i) := by simp [cs, List.map_take]
theorem cs_drop (gs : List (List (List Int))) (i : Nat) : (cs gs).drop i = cs (gs.drop i) := by simp [cs, List.map_drop]
theorem cs_pos {gs : List (List (List Int))} (h : ∀ g ∈ gs, g ≠ []) : ∀ c ∈ cs gs, 0 < c := by
  intro c hc
  simp only [cs, List.mem_map] at hc
  obtain ⟨g, hg, rfl⟩ := hc
  exact List.length_pos_iff.2 (h g hg)
theorem len_le_sum : ∀ (cs : List Nat), (∀ c ∈ cs, 0 < c) → cs.length ≤ cs.sum
  | [], _ => by simp
  | c :: cs, h => by
    have := len_le_sum cs fun x hx => h x (by simp [hx])
    have := h c (by simp)
    simp; omega
/-- A beginning of frames: whole ones, and a part of one. -/
theorem frms_take : ∀ (g : List (List Int)), (∀ r ∈ g, okR r) → ∀ (p : Nat), p ≤ (frms g).length → ∃ j t, j ≤ g.length ∧ (frms g).take p = frms (g.take j) ++ t ∧ fsz t = 0 ∧ ∀ k, (frms (g.take k)).length ≤ p → k ≤ g.length → k ≤ j
  | [], _, p, _ => ⟨0, [], by simp, by simp [frms], fsz_nil, fun k _ hk => by simpa using hk⟩
  | r :: g, h, p, hp => by
    have hr := h r (by simp)
    by_cases hlt : p < (frm r).length
    · refine ⟨0, (frm r).take p, by simp, ?_, fsz_part hr (List.take_prefix _ _) (by rw [List.length_take]; omega), fun k hk _ => ?_⟩
      · rw [frms_cons, List.take_append_of_le_length (by omega)]; simp [frms]
      · cases k with
        | zero => omega
        | succ k => rw [List.take_succ_cons, frms_cons, List.length_append] at hk; omega
    · rw [frms_cons, List.length_append] at hp
      obtain ⟨j, t, hj, e, ht, hk⟩ := frms_take g (fun x hx => h x (by simp [hx])) (p - (frm r).length) (by omega)
      refine ⟨j + 1, t, by simp; omega, ?_, ht, fun k hkp hkl => ?_⟩
      · rw [frms_cons, List.take_append, List.take_of_length_le (by omega), e, List.take_succ_cons, frms_cons, List.append_assoc]
      · cases k with
        | zero => omega
        | succ k =>
          rw [List.take_succ_cons, frms_cons, List.length_append] at hkp
          have := hk k (by omega) (by simpa using hkl)
          omega
theorem frms_pos {g : List (List Int)} (h : g ≠ []) : 0 < (frms g).length := by
  cases g with
  | nil => exact absurd rfl h
  | cons r g => rw [frms_cons, List.length_append, frm_length]; omega
theorem frms_take_len (g : List (List Int)) (j : Nat) : (frms (g.take j)).length ≤ (frms g).length := by
  conv => rhs; rw [← List.take_append_drop j g]
  rw [frms_append, List.length_append]; omega
end Go.Proofs.Ytgblekdllcngnaa

/- What findRecords does, whatever lies in the disk's rising segments. -/
namespace Go.Proofs.Ytgblekdllcngnaa
open Go.RowKit Go.Shelf Plain Go.IntWalk
set_option linter.unusedVariables false
set_option linter.unusedSimpArgs false

/-- The first k segments may be taken. -/
structure Tk (bs : List (List Int)) (k : Nat) : Prop where
  le : k ≤ bs.length
  ne : ∀ (i : Nat) (b : List Int), i < k → bs[i]? = some b → b ≠ [] ∧ (0 < i → cnt b ≠ 0)
  wh : ∀ (i : Nat) (b : List Int), i + 1 < k → bs[i]? = some b → msz b = b.length
/-- Whether the last one that was taken is whole. -/
def wb (bs : List (List Int)) (k : Nat) : Bool := decide (k = 0) || decide (msz (bs[k - 1]?.getD []) = (bs[k - 1]?.getD []).length)
def szK (bs : List (List Int)) (k : Nat) : Int := if k = 0 then 0 else (msz (bs[k - 1]?.getD []) : Int)
/-- No more than k are taken. -/
def Stop (bs : List (List Int)) (k : Nat) : Prop := wb bs k = false ∨ (bs[k]?.getD [] = [] ∨ (cnt (bs[k]?.getD []) = 0 ∧ 0 < k))
theorem Tk.zero (bs : List (List Int)) : Tk bs 0 := ⟨Nat.zero_le _, fun i b h => absurd h (by omega), fun i b h => absurd h (by omega)⟩
theorem Tk.succ {bs : List (List Int)} {k : Nat} (h : Tk bs k) {b : List Int} (hb : bs[k]? = some b) (hw : wb bs k = true) (h1 : b ≠ []) (h2 : 0 < k → cnt b ≠ 0) : Tk bs (k + 1) := by
  refine ⟨?_, fun i c hi hc => ?_, fun i c hi hc => ?_⟩
  · have := (List.getElem?_eq_some_iff.1 hb).1; omega
  · by_cases e : i = k
    · subst e; rw [hb] at hc; cases hc; exact ⟨h1, h2⟩
    · exact h.ne i c (by omega) hc
  · by_cases e : i + 1 = k
    · subst e
      unfold wb at hw
      simp only [Nat.add_sub_cancel, hc, Option.getD_some] at hw
      simpa using hw
    · exact h.wh i c (by omega) hc
theorem wb_succ {bs : List (List Int)} {k : Nat} {b : List Int} (hb : bs[k]? = some b) : wb bs (k + 1) = ((msz b : Int) == (b.length : Int)) := by
  unfold wb
  rw [Nat.add_sub_cancel, hb, Option.getD_some, Bool.eq_iff_iff]
  simp; omega
theorem szK_succ {bs : List (List Int)} {k : Nat} {b : List Int} (hb : bs[k]? = some b) : szK bs (k + 1) = (msz b : Int) := by
  unfold szK
  rw [Nat.add_sub_cancel, hb, Option.getD_some, if_neg (by omega)]
theorem take_cnt {bs : List (List Int)} {k : Nat} {b : List Int} (hb : bs[k]? = some b) : (bs.take (k + 1)).map cnt = (bs.take k).map cnt ++ [cnt b] := by
  rw [List.take_add_one, hb]; simp
theorem sumc_le (bs : List (List Int)) (h : ∀ b ∈ bs, b.length ≤ 1024) : (bs.map cnt).sum ≤ 1024 * bs.length := by
  induction bs with
  | nil => simp
  | cons b bs ih =>
    have h1 := ih fun x hx => h x (by simp [hx])
    have h2 := h b (by simp)
    have h3 := cnt_le b
    simp only [List.map_cons, List.sum_cons, List.length_cons]; omega
def lenC (lb : Nat) (w : World) : Nat := match w.cell? ⟨lb, 2, none⟩ with | some (.slice _ n _) => n | _ => 0
section
variable {M : Nat → Prop} {lb sb bm : Nat} {sv : Value} {l : List Sg} {root : List Int} {seg : Int} {size next forced : Int}
theorem Lgd.lenC {w : World} {st : List Int} (h : Lgd M w lb sb bm sv l root seg st size next forced) : lenC lb w = st.length := by
  obtain ⟨a, cap, rfl, _⟩ := own_shape h.row
  unfold Go.Proofs.Ytgblekdllcngnaa.lenC
  rw [h.c2]
theorem Sq.len {w : World} {N : Nat → Prop} {bs : List (List Int)} (hq : Sq seg bs l) (h : Dsk w sb bm N l root) : ∀ b ∈ bs, b.length ≤ 1024 := by
  intro b hb
  obtain ⟨i, hi, rfl⟩ := List.mem_iff_getElem.1 hb
  obtain ⟨x, hx, _, e⟩ := hq.get hi
  rw [List.getElem?_eq_getElem hi] at e
  rw [Option.some.inj e]
  exact (h.seg x (List.mem_of_getElem? hx)).2.2.1
/-- Any segment's bytes, none of one that is not there. -/
theorem read_b (w : World) {N : Nat → Prop} (h : Dsk w sb bm N l root) {bs : List (List Int)} (hq : Sq seg bs l) (h0 : 0 ≤ seg) (h1 : seg ≤ 1000000000000000) (k : Nat) (hk : k ≤ bs.length) (hl : bs.length ≤ 128) :
    Calls Try.prog 27 #[.pointer (some ⟨sb, 0, none⟩), .int .i64 (seg + k)] w fun r w' => ∃ v' c, r = .returned (.tuple #[v', .int .i64 c]) ∧ Btx (fun i => w.heap.size ≤ i) w' v' (bs[k]?.getD []) ∧ w.grownBy w' none := by
  by_cases hlt : k < bs.length
  · obtain ⟨x, _, hg, e⟩ := hq.get hlt
    rw [e]
    refine (read_some w h hg).mono ?_
    rintro r w' ⟨v', rfl, h1, h2⟩
    exact ⟨v', 0, rfl, h1, h2⟩
  · have hg := hq.no (k := seg + k) (.inr (by omega))
    rw [List.getElem?_eq_none (by omega)]
    refine (read_none w h (by omega) (by omega) hg).mono ?_
    rintro r w' ⟨v', rfl, h1, h2⟩
    exact ⟨v', 31, rfl, h1, h2⟩
set_option maxRecDepth 100000 in
set_option maxHeartbeats 4000000 in
theorem findRecords_any (w : World) (fs : Nat) (h : Lgd M w lb sb bm sv l root seg [] 0 fs forced) (h0 : 0 ≤ seg) (h1 : seg ≤ 1000000) (hf : fs ≤ 1000000) (bs : List (List Int)) (hq : Sq seg bs l) :
    Calls Try.prog 24 #[.pointer (some ⟨lb, 0, none⟩)] w fun e w' => e = .returned (.tuple #[]) ∧ ∃ k sv', Tk bs k ∧ Stop bs k ∧ Lgd M w' lb sb bm sv' l root seg (stC fs ((bs.take k).map cnt)) (szK bs k) ((fs + ((bs.take k).map cnt).sum : Nat) : Int) forced ∧ Kpt M w w' := by
  have hbl : bs.length ≤ 128 := by have := h.dsk.len; rw [hq.1] at this; exact this
  have hbb := hq.len h.dsk
  have HQ : Hid (Sq seg bs l) := hq
  have HB : Hid (∀ b ∈ bs, b.length ≤ 1024) := hbb
  clear hq hbb
  go_enter Try.func24, Try.ntmps24
  go_wp2_with fail
  go_loopw [2] (fun v wr => ∃ k sv nx sz, v = .bool (wb bs k) ∧ Tk bs k ∧ Hid (nx = ((fs + ((bs.take k).map cnt).sum : Nat) : Int)) ∧ Hid (sz = szK bs k) ∧ Lgd M wr lb sb bm sv l root seg (stC fs ((bs.take k).map cnt)) sz nx forced ∧ Kpt M w wr) (fun _ wr => bs.length + 1 - lenC lb wr)
  case atStart => exact ⟨0, sv, fs, 0, rfl, Tk.zero _, (by show _ = _; simp), rfl, h, Kpt.refl _ _⟩
  case round =>
    obtain ⟨k, sv, nx, sz, rfl, hT, hnx, hsz, hL, hK⟩ := hrel
    have hlc := hL.lenC
    have hln : (stC fs ((bs.take k).map cnt)).length = k := by rw [stC_length]; simp; have := hT.le; omega
    by_cases hwb : wb bs k = true
    rotate_left
    · have hwb : wb bs k = false := by simpa using hwb
      rw [hwb]
      go_wp2
      go_end0
      refine ⟨rfl, k, sv, hT, .inl hwb, ?_, hK⟩
      rw [← hnx.out, ← hsz.out]
      exact hL
    · rw [hwb]
      have hkl := hT.le
      obtain ⟨sa, scap, rfl, _⟩ := own_shape hL.row
      have HL : Hid (Lgd M wr lb sb bm (.slice sa (stC fs ((bs.take k).map cnt)).length scap) l root seg (stC fs ((bs.take k).map cnt)) sz nx forced) := hL
      rw [hln] at hL
      have c0 := hL.c0
      have c1 := hL.c1
      have c2 := hL.c2
      have hk := hL.keep (grown_drew wr)
      have hw1 : IntKind.i64.wrap (seg + (k : Int)) = seg + (k : Int) := by rw [IntKind.wrap_i64]; omega
      have hkc : Hid (∀ w', wr.drew.grownBy w' none → w'.cell? ⟨lb, 0, none⟩ = some (.pointer (some ⟨sb, 0, none⟩)) ∧ w'.cell? ⟨lb, 1, none⟩ = some (.int .i64 seg) ∧ w'.cell? ⟨lb, 2, none⟩ = some (.slice sa k scap)) := fun w' hg => ⟨(hk.keep hg).c0, (hk.keep hg).c1, (hk.keep hg).c2⟩
      obtain ⟨b, hb⟩ : ∃ b, bs[k]?.getD [] = b := ⟨_, rfl⟩
      have hbl2 : b.length ≤ 1024 := by
        rw [← hb]
        cases e : bs[k]? with
        | none => simp
        | some c => exact HB.out c (List.mem_of_getElem? e)
      go_wp2_with fail
      go_region_held3 (fun w' => w'.cell? ⟨lb, 0, none⟩ = some (.pointer (some ⟨sb, 0, none⟩)) ∧ w'.cell? ⟨lb, 1, none⟩ = some (.int .i64 seg) ∧ w'.cell? ⟨lb, 2, none⟩ = some (.slice sa k scap))
        (first
          | go_keep
          | exact hkc.out _ hg4)
        ((go_at_call 27
          refine (read_b _ hk.dsk HQ.out h0 (by omega) k hkl hbl).mono ?_
          rintro e w4 ⟨v4, c4, rfl, hb4, hg4⟩
          rw [hb] at hb4
          obtain ⟨a4, cap4, rfl⟩ := hb4.1.shape))
      have hm := measure_any a4 b.length cap4 b w4 hb4.1 (by omega)
      go_wp2_with fail
      refine hm.mono ?_
      rintro e w5 ⟨rfl, hB5⟩
      have hg5 := grown_none (grown_none (grown_drew wr) hg4) (below_grown hB5)
      have c25 := (hL.keep hg5).c2
      have hcc : cnt b ≤ 1024 := by have := cnt_le b; omega
      have hb' : Hid (bs[k]?.getD [] = b) := hb
      have HK5 : Hid (Kpt M w w5) := hK.trans (hL.kpt0 hg5)
      have HL5 : Hid (Lgd M w5 lb sb bm (.slice sa (stC fs ((bs.take k).map cnt)).length scap) l root seg (stC fs ((bs.take k).map cnt)) sz nx forced) := HL.out.keep hg5
      by_cases hC : b = [] ∨ (cnt b = 0 ∧ 0 < k)
      · have hend : Hid (Stop bs k) := .inr (by rw [hb'.out]; exact hC)
        by_cases hb0 : b.length = 0
        · have e0 : ((b.length : Int) == 0) = true := beq_iff_eq.2 (by omega)
          go_wp2
          refine bodyPost_ret (results_none rfl _ _ _) rfl ?_
          refine ⟨rfl, k, .slice sa (stC fs ((bs.take k).map cnt)).length scap, hT, hend.out, ?_, HK5.out⟩
          rw [← hnx.out, ← hsz.out]
          exact HL5.out
        · have e0 : ((b.length : Int) == 0) = false := beq_eq_false_iff_ne.2 (by omega)
          have hC2 : cnt b = 0 ∧ 0 < k := by
            rcases hC with rfl | hC
            · exact absurd rfl hb0
            · exact hC
          have e1 : ((cnt b : Int) == 0) = true := beq_iff_eq.2 (by omega)
          have e2 : decide ((k : Int) > 0) = true := by simp; omega
          go_wp2
          refine bodyPost_ret (results_none rfl _ _ _) rfl ?_
          refine ⟨rfl, k, .slice sa (stC fs ((bs.take k).map cnt)).length scap, hT, hend.out, ?_, HK5.out⟩
          rw [← hnx.out, ← hsz.out]
          exact HL5.out
      · have hb0 : b ≠ [] := fun e => hC (.inl e)
        have hbk : Hid (bs[k]? = some b) := by
          cases e : bs[k]? with
          | none => exfalso; rw [e] at hb; exact hb0 (by simpa using hb.symm)
          | some c => rw [e] at hb; simp at hb; rw [hb]; exact rfl
        have hT1 : Hid (Tk bs (k + 1)) := hT.succ hbk.out hwb hb0 (fun h0 e => hC (.inr ⟨e, h0⟩))
        have e0 : ((b.length : Int) == 0) = false := beq_eq_false_iff_ne.2 (fun e => hb0 (List.length_eq_zero_iff.1 (by omega)))
        have hkn : k + 1 ≤ bs.length := hT1.out.le
        have hsum : ((bs.take k).map cnt).sum ≤ 1024 * 128 := by
          have := sumc_le (bs.take k) (fun x hx => HB.out x (List.mem_of_mem_take hx))
          have : (bs.take k).length ≤ 128 := by simp; omega
          omega
        have hnb : 0 ≤ nx ∧ nx ≤ 2000000 := by rw [hnx.out]; omega
        have hwn : IntKind.i64.wrap (nx + (cnt b : Int)) = nx + (cnt b : Int) := by rw [IntKind.wrap_i64]; omega
        have h4 := HL5.out
        have h5 := h4.keep (grown_drew w5)
        have hK5 := HK5.out.trans (h4.kpt0 (grown_drew w5))
        have c25' := h5.c2
        have c45 := h5.c4
        obtain ⟨sv', w6, hrun, hrow6, hg6, ho6⟩ := run_append_start w5.drew _ (stC fs ((bs.take k).map cnt)) nx h5.row (by omega) 23
        obtain ⟨h7, hK7, c26, f26, c46⟩ := h5.starts hrow6 hg6 ho6
        obtain ⟨sa', scap', rfl, _⟩ := own_shape hrow6
        have hn2 : (stC fs ((bs.take k).map cnt) ++ [nx]).length = k + 1 := by rw [List.length_append, hln]; rfl
        rw [hn2] at hrun h7 hK7
        rw [hln] at hrun
        have hc4 := h7.cell 4 (.int .i64 (nx + (cnt b : Int))) (seg' := seg) (size' := sz) (next' := nx + (cnt b : Int)) (forced' := forced) rfl
        have hc3 := hc4.1.cell 3 (.int .i64 (msz b)) (seg' := seg) (size' := msz b) (next' := nx + (cnt b : Int)) (forced' := forced) rfl
        have HR : Hid (∃ k' sv nx' sz', Value.bool ((msz b : Int) == (b.length : Int)) = .bool (wb bs k') ∧ Tk bs k' ∧ Hid (nx' = ((fs + ((bs.take k').map cnt).sum : Nat) : Int)) ∧ Hid (sz' = szK bs k') ∧ Lgd M (((w6.setCell ⟨lb, 2, none⟩ (.slice sa' (k + 1) scap')).setCell ⟨lb, 4, none⟩ (.int .i64 (nx + (cnt b : Int)))).setCell ⟨lb, 3, none⟩ (.int .i64 (msz b))) lb sb bm sv l root seg (stC fs ((bs.take k').map cnt)) sz' nx' forced ∧ Kpt M w (((w6.setCell ⟨lb, 2, none⟩ (.slice sa' (k + 1) scap')).setCell ⟨lb, 4, none⟩ (.int .i64 (nx + (cnt b : Int)))).setCell ⟨lb, 3, none⟩ (.int .i64 (msz b)))) := by
          refine ⟨k + 1, .slice sa' (k + 1) scap', nx + (cnt b : Int), msz b, by rw [wb_succ hbk.out], hT1.out, ?_, (szK_succ hbk.out).symm, ?_, ((hK5.trans hK7).trans hc4.2).trans hc3.2⟩
          · show _ = _
            rw [take_cnt hbk.out, hnx.out]; simp; omega
          · have := hc3.1
            have e : stC fs ((bs.take (k + 1)).map cnt) = stC fs ((bs.take k).map cnt) ++ [nx] := by rw [take_cnt hbk.out, stC_snoc, hnx.out]
            rw [e]
            exact this
        have hlc2 : lenC lb (((w6.setCell ⟨lb, 2, none⟩ (.slice sa' (k + 1) scap')).setCell ⟨lb, 4, none⟩ (.int .i64 (nx + (cnt b : Int)))).setCell ⟨lb, 3, none⟩ (.int .i64 (msz b))) = k + 1 := by have := hc3.1.lenC; rw [this, List.length_append, hln]; rfl
        have c47 := h7.c4
        have f47 := h7.fz 4
        have c37 := hc4.1.c3
        have f37 := hc4.1.fz 3
        have hga := World.grownBy_alloc w5 (.cells #[.int .i64 nx] 3) none
        have h4a := h4.keep hga
        have c2a := h4a.c2
        have c4a := h4a.c4
        have c24 := h4.c2
        have c44 := h4.c4
        rw [hln] at c2a c24 c25'
        have hrun' : (Builtin.append_ #[23, 23] 23 #[.slice sa k scap, .slice (some ⟨w5.heap.size, 0, none⟩) 1 1]).run Try.prog (w5.alloc (.cells #[.int .i64 nx] 3)).drew = .ok (.slice sa' (k + 1) scap') w6 := hrun
        clear hrun h4 h5 h7 hc4 hc3 h4a hL HL5 HL hk hK7 hK5
        by_cases hc0 : cnt b = 0
        · have e1 : ((cnt b : Int) == 0) = true := beq_iff_eq.2 (by omega)
          have e3 : decide (0 < k) = false := by simp; exact Nat.eq_zero_of_not_pos fun h0 => hC (.inr ⟨hc0, h0⟩)
          have e2 : decide ((k : Int) > 0) = false := by simp; exact Nat.eq_zero_of_not_pos fun h0 => hC (.inr ⟨hc0, h0⟩)
          clear hc0
          go_wp2_with fail
          refine wp_region_any (by kernel_rfl) ?_
          change wpAny _ _ _ _ _ _ _ (World.drew _)
          refine wpAny_take (i := 0) (v := ?_) rfl (by kernel_rfl) (by kernel_rfl) (by kernel_rfl) (fun _ _ _ h => h) (Or.inl ⟨by rfl, ?_⟩) ?_
          rotate_left
          · (intro w; go_simp; try with_reducible rfl)
          try simp only [List.getElem_toArray, List.getElem_cons_zero, List.getElem_cons_succ, Act.put, List.setIfInBounds_toArray, List.set_cons_zero, List.set_cons_succ]
          refine wpAny_take (i := 1) (v := ?_) rfl (by kernel_rfl) (by kernel_rfl) (by kernel_rfl) (fun _ _ _ h => h) (Or.inl ⟨by rfl, ?_⟩) ?_
          rotate_left
          · (intro w; go_simp; try with_reducible rfl)
          try simp only [List.getElem_toArray, List.getElem_cons_zero, List.getElem_cons_succ, Act.put, List.setIfInBounds_toArray, List.set_cons_zero, List.set_cons_succ]
          refine wpAny_take (i := 2) (v := ?_) rfl (by kernel_rfl) (by kernel_rfl) (by kernel_rfl) (fun _ _ _ h => h) (Or.inl ⟨by rfl, ?_⟩) ?_
          rotate_left
          · (intro w; go_simp; try with_reducible rfl)
          try simp only [List.getElem_toArray, List.getElem_cons_zero, List.getElem_cons_succ, Act.put, List.setIfInBounds_toArray, List.set_cons_zero, List.set_cons_succ]
          refine wpAny_take (i := 3) (v := ?_) rfl (by kernel_rfl) (by kernel_rfl) (by kernel_rfl) (fun _ _ _ h => h) (Or.inl ⟨by rfl, ?_⟩) ?_
          rotate_left
          · (intro w; go_simp; try with_reducible rfl)
          try simp only [List.getElem_toArray, List.getElem_cons_zero, List.getElem_cons_succ, Act.put, List.setIfInBounds_toArray, List.set_cons_zero, List.set_cons_succ]
          refine wpAny_take (i := 5) (v := ?_) rfl (by kernel_rfl) (by kernel_rfl) (by kernel_rfl) (fun _ _ _ h => h) (Or.inl ⟨by rfl, ?_⟩) ?_
          rotate_left
          · (intro w; go_simp; try with_reducible rfl)
          try simp only [List.getElem_toArray, List.getElem_cons_zero, List.getElem_cons_succ, Act.put, List.setIfInBounds_toArray, List.set_cons_zero, List.set_cons_succ]
          refine wpAny_take (i := 6) (v := ?_) rfl (by kernel_rfl) (by kernel_rfl) (by kernel_rfl) (fun _ _ _ h => h) (Or.inl ⟨by rfl, ?_⟩) ?_
          rotate_left
          · (intro w; go_simp; try with_reducible rfl)
          try simp only [List.getElem_toArray, List.getElem_cons_zero, List.getElem_cons_succ, Act.put, List.setIfInBounds_toArray, List.set_cons_zero, List.set_cons_succ]
          refine wpAny_take (i := 7) (v := ?_) rfl (by kernel_rfl) (by kernel_rfl) (by kernel_rfl) (fun _ _ _ h => h) (Or.inl ⟨by rfl, ?_⟩) ?_
          rotate_left
          · (intro w; go_simp; try with_reducible rfl)
          try simp only [List.getElem_toArray, List.getElem_cons_zero, List.getElem_cons_succ, Act.put, List.setIfInBounds_toArray, List.set_cons_zero, List.set_cons_succ]
          refine wpAny_ready (rs := [4, 8]) (by kernel_rfl) (by simp) ?_
          refine AllReady.cons rfl (fun K hK => ?_) (AllReady.cons rfl (fun K hK => ?_) (AllReady.nil))
          · go_simp
            refine hK _ _ ?_
            clear hK K
            try simp only [List.getElem_toArray, List.getElem_cons_zero, List.getElem_cons_succ, Act.put, List.setIfInBounds_toArray, List.set_cons_zero, List.set_cons_succ]
            refine wpAny_ready (rs := [8]) (by kernel_rfl) (by simp) ?_
            refine AllReady.cons rfl (fun K hK => ?_) (AllReady.nil)
            go_simp
            refine hK _ _ ?_
            clear hK K
            try simp only [List.getElem_toArray, List.getElem_cons_zero, List.getElem_cons_succ, Act.put, List.setIfInBounds_toArray, List.set_cons_zero, List.set_cons_succ]
            refine wpAny_ready (rs := [9]) (by kernel_rfl) (by simp) ?_
            refine AllReady.cons rfl (fun K hK => ?_) (AllReady.nil)
            go_simp
            refine hK _ _ ?_
            clear hK K
            try simp only [List.getElem_toArray, List.getElem_cons_zero, List.getElem_cons_succ, Act.put, List.setIfInBounds_toArray, List.set_cons_zero, List.set_cons_succ]
            refine wpAny_ready (rs := [10]) (by kernel_rfl) (by simp) ?_
            refine AllReady.cons rfl (fun K hK => ?_) (AllReady.nil)
            refine step_append_run (by rfl) _ _ (by rfl) _ _ (by rfl) (by rfl) hrun' ?_
            refine hK _ _ ?_
            clear hK K
            try simp only [List.getElem_toArray, List.getElem_cons_zero, List.getElem_cons_succ, Act.put, List.setIfInBounds_toArray, List.set_cons_zero, List.set_cons_succ]
            refine wpAny_take (i := 11) (v := ?_) rfl (by kernel_rfl) (by kernel_rfl) (by kernel_rfl) (fun _ _ _ h => h) (Or.inl ⟨by rfl, ?_⟩) ?_
            rotate_left
            · (intro w; go_simp; try with_reducible rfl)
            try simp only [List.getElem_toArray, List.getElem_cons_zero, List.getElem_cons_succ, Act.put, List.setIfInBounds_toArray, List.set_cons_zero, List.set_cons_succ]
            refine wpAny_take (i := 12) (v := ?_) rfl (by kernel_rfl) (by kernel_rfl) (by kernel_rfl) (fun _ _ _ h => h) (Or.inl ⟨by rfl, ?_⟩) ?_
            rotate_left
            · (intro w; go_simp; try with_reducible rfl)
            try simp only [List.getElem_toArray, List.getElem_cons_zero, List.getElem_cons_succ, Act.put, List.setIfInBounds_toArray, List.set_cons_zero, List.set_cons_succ]
            refine wpAny_ready (rs := [13]) (by kernel_rfl) (by simp) ?_
            refine AllReady.cons rfl (fun K hK => ?_) (AllReady.nil)
            go_simp
            refine hK _ _ ?_
            clear hK K
            try simp only [List.getElem_toArray, List.getElem_cons_zero, List.getElem_cons_succ, Act.put, List.setIfInBounds_toArray, List.set_cons_zero, List.set_cons_succ]
            refine wpAny_done (by kernel_rfl) ?_ _
            go_wp2
            go_roundw
            case rel => exact HR.out
            case measure => rw [hlc2, hlc, hln]; omega
          · go_simp
            refine hK _ _ ?_
            clear hK K
            try simp only [List.getElem_toArray, List.getElem_cons_zero, List.getElem_cons_succ, Act.put, List.setIfInBounds_toArray, List.set_cons_zero, List.set_cons_succ]
            refine wpAny_ready (rs := [4, 9]) (by kernel_rfl) (by simp) ?_
            refine AllReady.cons rfl (fun K hK => ?_) (AllReady.cons rfl (fun K hK => ?_) (AllReady.nil))
            · go_simp
              refine hK _ _ ?_
              clear hK K
              try simp only [List.getElem_toArray, List.getElem_cons_zero, List.getElem_cons_succ, Act.put, List.setIfInBounds_toArray, List.set_cons_zero, List.set_cons_succ]
              refine wpAny_ready (rs := [9]) (by kernel_rfl) (by simp) ?_
              refine AllReady.cons rfl (fun K hK => ?_) (AllReady.nil)
              go_simp
              refine hK _ _ ?_
              clear hK K
              try simp only [List.getElem_toArray, List.getElem_cons_zero, List.getElem_cons_succ, Act.put, List.setIfInBounds_toArray, List.set_cons_zero, List.set_cons_succ]
              refine wpAny_ready (rs := [10]) (by kernel_rfl) (by simp) ?_
              refine AllReady.cons rfl (fun K hK => ?_) (AllReady.nil)
              refine step_append_run (by rfl) _ _ (by rfl) _ _ (by rfl) (by rfl) hrun' ?_
              refine hK _ _ ?_
              clear hK K
              try simp only [List.getElem_toArray, List.getElem_cons_zero, List.getElem_cons_succ, Act.put, List.setIfInBounds_toArray, List.set_cons_zero, List.set_cons_succ]
              refine wpAny_take (i := 11) (v := ?_) rfl (by kernel_rfl) (by kernel_rfl) (by kernel_rfl) (fun _ _ _ h => h) (Or.inl ⟨by rfl, ?_⟩) ?_
              rotate_left
              · (intro w; go_simp; try with_reducible rfl)
              try simp only [List.getElem_toArray, List.getElem_cons_zero, List.getElem_cons_succ, Act.put, List.setIfInBounds_toArray, List.set_cons_zero, List.set_cons_succ]
              refine wpAny_take (i := 12) (v := ?_) rfl (by kernel_rfl) (by kernel_rfl) (by kernel_rfl) (fun _ _ _ h => h) (Or.inl ⟨by rfl, ?_⟩) ?_
              rotate_left
              · (intro w; go_simp; try with_reducible rfl)
              try simp only [List.getElem_toArray, List.getElem_cons_zero, List.getElem_cons_succ, Act.put, List.setIfInBounds_toArray, List.set_cons_zero, List.set_cons_succ]
              refine wpAny_ready (rs := [13]) (by kernel_rfl) (by simp) ?_
              refine AllReady.cons rfl (fun K hK => ?_) (AllReady.nil)
              go_simp
              refine hK _ _ ?_
              clear hK K
              try simp only [List.getElem_toArray, List.getElem_cons_zero, List.getElem_cons_succ, Act.put, List.setIfInBounds_toArray, List.set_cons_zero, List.set_cons_succ]
              refine wpAny_done (by kernel_rfl) ?_ _
              go_wp2
              go_roundw
              case rel => exact HR.out
              case measure => rw [hlc2, hlc, hln]; omega
            · go_simp
              refine hK _ _ ?_
              clear hK K
              try simp only [List.getElem_toArray, List.getElem_cons_zero, List.getElem_cons_succ, Act.put, List.setIfInBounds_toArray, List.set_cons_zero, List.set_cons_succ]
              refine wpAny_ready (rs := [4]) (by kernel_rfl) (by simp) ?_
              refine AllReady.cons rfl (fun K hK => ?_) (AllReady.nil)
              go_simp
              refine hK _ _ ?_
              clear hK K
              try simp only [List.getElem_toArray, List.getElem_cons_zero, List.getElem_cons_succ, Act.put, List.setIfInBounds_toArray, List.set_cons_zero, List.set_cons_succ]
              refine wpAny_ready (rs := [10]) (by kernel_rfl) (by simp) ?_
              refine AllReady.cons rfl (fun K hK => ?_) (AllReady.nil)
              refine step_append_run (by rfl) _ _ (by rfl) _ _ (by rfl) (by rfl) hrun' ?_
              refine hK _ _ ?_
              clear hK K
              try simp only [List.getElem_toArray, List.getElem_cons_zero, List.getElem_cons_succ, Act.put, List.setIfInBounds_toArray, List.set_cons_zero, List.set_cons_succ]
              refine wpAny_take (i := 11) (v := ?_) rfl (by kernel_rfl) (by kernel_rfl) (by kernel_rfl) (fun _ _ _ h => h) (Or.inl ⟨by rfl, ?_⟩) ?_
              rotate_left
              · (intro w; go_simp; try with_reducible rfl)
              try simp only [List.getElem_toArray, List.getElem_cons_zero, List.getElem_cons_succ, Act.put, List.setIfInBounds_toArray, List.set_cons_zero, List.set_cons_succ]
              refine wpAny_take (i := 12) (v := ?_) rfl (by kernel_rfl) (by kernel_rfl) (by kernel_rfl) (fun _ _ _ h => h) (Or.inl ⟨by rfl, ?_⟩) ?_
              rotate_left
              · (intro w; go_simp; try with_reducible rfl)
              try simp only [List.getElem_toArray, List.getElem_cons_zero, List.getElem_cons_succ, Act.put, List.setIfInBounds_toArray, List.set_cons_zero, List.set_cons_succ]
              refine wpAny_ready (rs := [13]) (by kernel_rfl) (by simp) ?_
              refine AllReady.cons rfl (fun K hK => ?_) (AllReady.nil)
              go_simp
              refine hK _ _ ?_
              clear hK K
              try simp only [List.getElem_toArray, List.getElem_cons_zero, List.getElem_cons_succ, Act.put, List.setIfInBounds_toArray, List.set_cons_zero, List.set_cons_succ]
              refine wpAny_done (by kernel_rfl) ?_ _
              go_wp2
              go_roundw
              case rel => exact HR.out
              case measure => rw [hlc2, hlc, hln]; omega
        · have e1 : ((cnt b : Int) == 0) = false := beq_eq_false_iff_ne.2 (by omega)
          go_wp2_with fail
          refine wp_region_any (by kernel_rfl) ?_
          change wpAny _ _ _ _ _ _ _ (World.drew _)
          refine wpAny_take (i := 0) (v := ?_) rfl (by kernel_rfl) (by kernel_rfl) (by kernel_rfl) (fun _ _ _ h => h) (Or.inl ⟨by rfl, ?_⟩) ?_
          rotate_left
          · (intro w; go_simp; try with_reducible rfl)
          try simp only [List.getElem_toArray, List.getElem_cons_zero, List.getElem_cons_succ, Act.put, List.setIfInBounds_toArray, List.set_cons_zero, List.set_cons_succ]
          refine wpAny_take (i := 1) (v := ?_) rfl (by kernel_rfl) (by kernel_rfl) (by kernel_rfl) (fun _ _ _ h => h) (Or.inl ⟨by rfl, ?_⟩) ?_
          rotate_left
          · (intro w; go_simp; try with_reducible rfl)
          try simp only [List.getElem_toArray, List.getElem_cons_zero, List.getElem_cons_succ, Act.put, List.setIfInBounds_toArray, List.set_cons_zero, List.set_cons_succ]
          refine wpAny_take (i := 2) (v := ?_) rfl (by kernel_rfl) (by kernel_rfl) (by kernel_rfl) (fun _ _ _ h => h) (Or.inl ⟨by rfl, ?_⟩) ?_
          rotate_left
          · (intro w; go_simp; try with_reducible rfl)
          try simp only [List.getElem_toArray, List.getElem_cons_zero, List.getElem_cons_succ, Act.put, List.setIfInBounds_toArray, List.set_cons_zero, List.set_cons_succ]
          refine wpAny_take (i := 3) (v := ?_) rfl (by kernel_rfl) (by kernel_rfl) (by kernel_rfl) (fun _ _ _ h => h) (Or.inl ⟨by rfl, ?_⟩) ?_
          rotate_left
          · (intro w; go_simp; try with_reducible rfl)
          try simp only [List.getElem_toArray, List.getElem_cons_zero, List.getElem_cons_succ, Act.put, List.setIfInBounds_toArray, List.set_cons_zero, List.set_cons_succ]
          refine wpAny_take (i := 5) (v := ?_) rfl (by kernel_rfl) (by kernel_rfl) (by kernel_rfl) (fun _ _ _ h => h) (Or.inl ⟨by rfl, ?_⟩) ?_
          rotate_left
          · (intro w; go_simp; try with_reducible rfl)
          try simp only [List.getElem_toArray, List.getElem_cons_zero, List.getElem_cons_succ, Act.put, List.setIfInBounds_toArray, List.set_cons_zero, List.set_cons_succ]
          refine wpAny_take (i := 6) (v := ?_) rfl (by kernel_rfl) (by kernel_rfl) (by kernel_rfl) (fun _ _ _ h => h) (Or.inl ⟨by rfl, ?_⟩) ?_
          rotate_left
          · (intro w; go_simp; try with_reducible rfl)
          try simp only [List.getElem_toArray, List.getElem_cons_zero, List.getElem_cons_succ, Act.put, List.setIfInBounds_toArray, List.set_cons_zero, List.set_cons_succ]
          refine wpAny_take (i := 7) (v := ?_) rfl (by kernel_rfl) (by kernel_rfl) (by kernel_rfl) (fun _ _ _ h => h) (Or.inl ⟨by rfl, ?_⟩) ?_
          rotate_left
          · (intro w; go_simp; try with_reducible rfl)
          try simp only [List.getElem_toArray, List.getElem_cons_zero, List.getElem_cons_succ, Act.put, List.setIfInBounds_toArray, List.set_cons_zero, List.set_cons_succ]
          refine wpAny_ready (rs := [4, 8]) (by kernel_rfl) (by simp) ?_
          refine AllReady.cons rfl (fun K hK => ?_) (AllReady.cons rfl (fun K hK => ?_) (AllReady.nil))
          · go_simp
            refine hK _ _ ?_
            clear hK K
            try simp only [List.getElem_toArray, List.getElem_cons_zero, List.getElem_cons_succ, Act.put, List.setIfInBounds_toArray, List.set_cons_zero, List.set_cons_succ]
            refine wpAny_ready (rs := [8]) (by kernel_rfl) (by simp) ?_
            refine AllReady.cons rfl (fun K hK => ?_) (AllReady.nil)
            go_simp
            refine hK _ _ ?_
            clear hK K
            try simp only [List.getElem_toArray, List.getElem_cons_zero, List.getElem_cons_succ, Act.put, List.setIfInBounds_toArray, List.set_cons_zero, List.set_cons_succ]
            refine wpAny_ready (rs := [9]) (by kernel_rfl) (by simp) ?_
            refine AllReady.cons rfl (fun K hK => ?_) (AllReady.nil)
            go_simp
            refine hK _ _ ?_
            clear hK K
            try simp only [List.getElem_toArray, List.getElem_cons_zero, List.getElem_cons_succ, Act.put, List.setIfInBounds_toArray, List.set_cons_zero, List.set_cons_succ]
            refine wpAny_ready (rs := [10]) (by kernel_rfl) (by simp) ?_
            refine AllReady.cons rfl (fun K hK => ?_) (AllReady.nil)
            refine step_append_run (by rfl) _ _ (by rfl) _ _ (by rfl) (by rfl) hrun' ?_
            refine hK _ _ ?_
            clear hK K
            try simp only [List.getElem_toArray, List.getElem_cons_zero, List.getElem_cons_succ, Act.put, List.setIfInBounds_toArray, List.set_cons_zero, List.set_cons_succ]
            refine wpAny_take (i := 11) (v := ?_) rfl (by kernel_rfl) (by kernel_rfl) (by kernel_rfl) (fun _ _ _ h => h) (Or.inl ⟨by rfl, ?_⟩) ?_
            rotate_left
            · (intro w; go_simp; try with_reducible rfl)
            try simp only [List.getElem_toArray, List.getElem_cons_zero, List.getElem_cons_succ, Act.put, List.setIfInBounds_toArray, List.set_cons_zero, List.set_cons_succ]
            refine wpAny_take (i := 12) (v := ?_) rfl (by kernel_rfl) (by kernel_rfl) (by kernel_rfl) (fun _ _ _ h => h) (Or.inl ⟨by rfl, ?_⟩) ?_
            rotate_left
            · (intro w; go_simp; try with_reducible rfl)
            try simp only [List.getElem_toArray, List.getElem_cons_zero, List.getElem_cons_succ, Act.put, List.setIfInBounds_toArray, List.set_cons_zero, List.set_cons_succ]
            refine wpAny_ready (rs := [13]) (by kernel_rfl) (by simp) ?_
            refine AllReady.cons rfl (fun K hK => ?_) (AllReady.nil)
            go_simp
            refine hK _ _ ?_
            clear hK K
            try simp only [List.getElem_toArray, List.getElem_cons_zero, List.getElem_cons_succ, Act.put, List.setIfInBounds_toArray, List.set_cons_zero, List.set_cons_succ]
            refine wpAny_done (by kernel_rfl) ?_ _
            go_wp2
            go_roundw
            case rel => exact HR.out
            case measure => rw [hlc2, hlc, hln]; omega
          · go_simp
            refine hK _ _ ?_
            clear hK K
            try simp only [List.getElem_toArray, List.getElem_cons_zero, List.getElem_cons_succ, Act.put, List.setIfInBounds_toArray, List.set_cons_zero, List.set_cons_succ]
            refine wpAny_ready (rs := [4, 9]) (by kernel_rfl) (by simp) ?_
            refine AllReady.cons rfl (fun K hK => ?_) (AllReady.cons rfl (fun K hK => ?_) (AllReady.nil))
            · go_simp
              refine hK _ _ ?_
              clear hK K
              try simp only [List.getElem_toArray, List.getElem_cons_zero, List.getElem_cons_succ, Act.put, List.setIfInBounds_toArray, List.set_cons_zero, List.set_cons_succ]
              refine wpAny_ready (rs := [9]) (by kernel_rfl) (by simp) ?_
              refine AllReady.cons rfl (fun K hK => ?_) (AllReady.nil)
              go_simp
              refine hK _ _ ?_
              clear hK K
              try simp only [List.getElem_toArray, List.getElem_cons_zero, List.getElem_cons_succ, Act.put, List.setIfInBounds_toArray, List.set_cons_zero, List.set_cons_succ]
              refine wpAny_ready (rs := [10]) (by kernel_rfl) (by simp) ?_
              refine AllReady.cons rfl (fun K hK => ?_) (AllReady.nil)
              refine step_append_run (by rfl) _ _ (by rfl) _ _ (by rfl) (by rfl) hrun' ?_
              refine hK _ _ ?_
              clear hK K
              try simp only [List.getElem_toArray, List.getElem_cons_zero, List.getElem_cons_succ, Act.put, List.setIfInBounds_toArray, List.set_cons_zero, List.set_cons_succ]
              refine wpAny_take (i := 11) (v := ?_) rfl (by kernel_rfl) (by kernel_rfl) (by kernel_rfl) (fun _ _ _ h => h) (Or.inl ⟨by rfl, ?_⟩) ?_
              rotate_left
              · (intro w; go_simp; try with_reducible rfl)
              try simp only [List.getElem_toArray, List.getElem_cons_zero, List.getElem_cons_succ, Act.put, List.setIfInBounds_toArray, List.set_cons_zero, List.set_cons_succ]
              refine wpAny_take (i := 12) (v := ?_) rfl (by kernel_rfl) (by kernel_rfl) (by kernel_rfl) (fun _ _ _ h => h) (Or.inl ⟨by rfl, ?_⟩) ?_
              rotate_left
              · (intro w; go_simp; try with_reducible rfl)
              try simp only [List.getElem_toArray, List.getElem_cons_zero, List.getElem_cons_succ, Act.put, List.setIfInBounds_toArray, List.set_cons_zero, List.set_cons_succ]
              refine wpAny_ready (rs := [13]) (by kernel_rfl) (by simp) ?_
              refine AllReady.cons rfl (fun K hK => ?_) (AllReady.nil)
              go_simp
              refine hK _ _ ?_
              clear hK K
              try simp only [List.getElem_toArray, List.getElem_cons_zero, List.getElem_cons_succ, Act.put, List.setIfInBounds_toArray, List.set_cons_zero, List.set_cons_succ]
              refine wpAny_done (by kernel_rfl) ?_ _
              go_wp2
              go_roundw
              case rel => exact HR.out
              case measure => rw [hlc2, hlc, hln]; omega
            · go_simp
              refine hK _ _ ?_
              clear hK K
              try simp only [List.getElem_toArray, List.getElem_cons_zero, List.getElem_cons_succ, Act.put, List.setIfInBounds_toArray, List.set_cons_zero, List.set_cons_succ]
              refine wpAny_ready (rs := [4]) (by kernel_rfl) (by simp) ?_
              refine AllReady.cons rfl (fun K hK => ?_) (AllReady.nil)
              go_simp
              refine hK _ _ ?_
              clear hK K
              try simp only [List.getElem_toArray, List.getElem_cons_zero, List.getElem_cons_succ, Act.put, List.setIfInBounds_toArray, List.set_cons_zero, List.set_cons_succ]
              refine wpAny_ready (rs := [10]) (by kernel_rfl) (by simp) ?_
              refine AllReady.cons rfl (fun K hK => ?_) (AllReady.nil)
              refine step_append_run (by rfl) _ _ (by rfl) _ _ (by rfl) (by rfl) hrun' ?_
              refine hK _ _ ?_
              clear hK K
              try simp only [List.getElem_toArray, List.getElem_cons_zero, List.getElem_cons_succ, Act.put, List.setIfInBounds_toArray, List.set_cons_zero, List.set_cons_succ]
              refine wpAny_take (i := 11) (v := ?_) rfl (by kernel_rfl) (by kernel_rfl) (by kernel_rfl) (fun _ _ _ h => h) (Or.inl ⟨by rfl, ?_⟩) ?_
              rotate_left
              · (intro w; go_simp; try with_reducible rfl)
              try simp only [List.getElem_toArray, List.getElem_cons_zero, List.getElem_cons_succ, Act.put, List.setIfInBounds_toArray, List.set_cons_zero, List.set_cons_succ]
              refine wpAny_take (i := 12) (v := ?_) rfl (by kernel_rfl) (by kernel_rfl) (by kernel_rfl) (fun _ _ _ h => h) (Or.inl ⟨by rfl, ?_⟩) ?_
              rotate_left
              · (intro w; go_simp; try with_reducible rfl)
              try simp only [List.getElem_toArray, List.getElem_cons_zero, List.getElem_cons_succ, Act.put, List.setIfInBounds_toArray, List.set_cons_zero, List.set_cons_succ]
              refine wpAny_ready (rs := [13]) (by kernel_rfl) (by simp) ?_
              refine AllReady.cons rfl (fun K hK => ?_) (AllReady.nil)
              go_simp
              refine hK _ _ ?_
              clear hK K
              try simp only [List.getElem_toArray, List.getElem_cons_zero, List.getElem_cons_succ, Act.put, List.setIfInBounds_toArray, List.set_cons_zero, List.set_cons_succ]
              refine wpAny_done (by kernel_rfl) ?_ _
              go_wp2
              go_roundw
              case rel => exact HR.out
              case measure => rw [hlc2, hlc, hln]; omega
end
end Go.Proofs.Ytgblekdllcngnaa

/- What removeOthers and makeSafe do to a log whose segments rise by one. -/
namespace Go.Proofs.Ytgblekdllcngnaa
open Go.RowKit Go.Shelf Plain Go.IntWalk
set_option linter.unusedVariables false
set_option linter.unusedSimpArgs false

/-- Without those from a on, ahead of i. -/
def rmS (a i : Int) (l : List Sg) : List Sg := l.filter (fun y => decide (y.n < a ∨ i ≤ y.n))
theorem rmS_start {seg a : Int} {bs : List (List Int)} {l : List Sg} (h : Sq seg bs l) : rmS a seg l = l := by
  unfold rmS
  refine List.filter_eq_self.2 fun y hy => ?_
  have := h.hi 0 y (by simpa using hy)
  simp; omega
theorem rmS_pass {a i : Int} {l : List Sg} (h : i < a) : rmS a (i + 1) l = rmS a i l := by
  unfold rmS
  refine List.filter_congr fun y hy => ?_
  rw [Bool.eq_iff_iff]; simp; omega
theorem rmS_del {a i : Int} {l : List Sg} (h : a ≤ i) : delS i (rmS a i l) = rmS a (i + 1) l := by
  unfold rmS delS
  rw [List.filter_filter]
  refine List.filter_congr fun y hy => ?_
  rw [Bool.eq_iff_iff]; simp; omega
theorem rmS_end {seg : Int} {bs : List (List Int)} {l : List Sg} (h : Sq seg bs l) (k : Nat) : rmS (seg + k) (seg + l.length) l = l.take k := by
  unfold rmS
  refine filter_left l _ k (fun y hy => ?_) (fun y hy => ?_)
  · have := h.lo k y hy; simp; omega
  · have h1 := h.hi k y hy
    have h2 := h.lo l.length y (by rw [List.take_length]; exact List.mem_of_mem_drop hy)
    simp; omega
theorem rmS_get {seg a i : Int} {bs : List (List Int)} {l : List Sg} (h : Sq seg bs l) (x : Sg) (hx : x ∈ l) (hi : i ≤ x.n) : getS x.n (rmS a i l) = some x := by
  have hu : Up (rmS a i l) := h.up.sublist List.filter_sublist
  refine hu.get ?_
  unfold rmS
  rw [List.mem_filter]
  exact ⟨hx, by simp; omega⟩
theorem row_cell {w : World} {base g n cap : Nat} {st : List Int} (h : w.ownsRow base 3 1 (.slice (some ⟨g, 0, none⟩) n cap) n (st.map (Value.int .i64))) (j : Nat) (z : Int) (hz : st[j]? = some z) : w.cell? ⟨g, j, none⟩ = some (.int .i64 z) := by
  have hadd : (⟨g, 0, none⟩ : Addr).add j = ⟨g, j, none⟩ := by unfold Addr.add; split <;> simp_all
  rw [← hadd]
  exact h.cells (g := g) rfl j _ (by rw [List.getElem?_map, hz]; rfl)
theorem put_same {seg : Int} {bs : List (List Int)} {l : List Sg} (h : Sq seg bs l) {j : Nat} {x : Sg} (hx : l[j]? = some x) : putS x l = l := by
  have hj : j < l.length := (List.getElem?_eq_some_iff.1 hx).1
  rw [(h.at (by rw [← h.1]; exact hj) (h.2 j x hx).1).1]
  apply List.ext_getElem?
  intro i
  by_cases e : i = j
  · subst e; rw [List.getElem?_set_self hj, hx]
  · rw [List.getElem?_set_ne (by omega)]
section
variable {M : Nat → Prop} {lb sb bm : Nat} {sv : Value} {l : List Sg} {root : List Int} {seg : Int} {st : List Int} {size next forced : Int}
set_option maxRecDepth 100000 in
set_option maxHeartbeats 4000000 in
theorem removeOthers_any (w : World) (h : Lgd M w lb sb bm sv l root seg st size next forced) (h0 : 0 ≤ seg) (h1 : seg ≤ 1000000) (bs : List (List Int)) (hq : Sq seg bs l) (hk : st.length ≤ bs.length) :
    Calls Try.prog 25 #[.pointer (some ⟨lb, 0, none⟩)] w fun e w' => e = .returned (.tuple #[]) ∧ Lgd M w' lb sb bm sv (l.take st.length) root seg st size next forced ∧ Kpt M w w' := by
  have c0 := h.c0
  have hll := h.dsk.len
  have hlb := hq.1
  go_enter Try.func25, Try.ntmps25
  go_wp2_with fail
  refine (segments_any w h.dsk).mono ?_
  rintro e w1 ⟨g, cap, rfl, hrow, hg⟩
  have hm := h.more hg
  have hgl := hrow.lt g rfl
  have HC : Hid (∀ j : Nat, j < l.length → w1.cell? ⟨g, j, none⟩ = some (.int .i64 (seg + j))) := by
    intro j hj
    refine row_cell hrow j _ ?_
    rw [List.getElem?_map, List.getElem?_eq_getElem hj]
    have := (hq.2 j _ (List.getElem?_eq_getElem hj)).1
    simp only [Option.map_some, this]
  have HM : Hid (And_ M w w1 g) := .inr ⟨hgl.1, hgl.2⟩
  have HQ : Hid (Sq seg bs l) := hq
  have hK0 := h.kpt0 hg
  clear hq hrow hgl
  go_wp2_with fail
  go_loopw [10] (fun i wr => ∃ j : Nat, j ≤ l.length ∧ i = .int .i64 j ∧ Lgd (And_ M w w1) wr lb sb bm sv (rmS (seg + st.length) (seg + j) l) root seg st size next forced ∧ Kpt (And_ M w w1) w1 wr) (fun i _ => l.length - (intOf i).toNat)
  case atStart => exact ⟨0, Nat.zero_le _, rfl, by simpa [rmS_start HQ.out] using hm, Kpt.refl _ _⟩
  case round =>
    obtain ⟨j, hj, rfl, hL, hK⟩ := hrel
    by_cases hlt : j < l.length
    · have hcg : wr.cell? ⟨g, j, none⟩ = some (.int .i64 (seg + j)) := by
        rw [← HC.out j hlt]
        have := hK.block g HM.out
        simp [World.cell?, this]
      have hjl : (j : Int) < (l.length : Int) := by omega
      have hjd : decide ((j : Int) < (l.length : Int)) = true := by simp; omega
      have hd1 : decide (seg + (j : Int) < seg) = false := by simp; omega
      have c1 := hL.c1
      go_wp2_with fail
      refine (last_any _ hL (by omega) (by omega) (by omega)).mono ?_
      rintro e w5 ⟨kk, rfl, hkk, hg5⟩
      have h5 := hL.keep hg5
      have hK5 := hK.trans (hL.kpt0 hg5)
      have c05 := h5.c0
      by_cases hin : j < st.length
      · have hd2 : decide (seg + (j : Int) > kk) = false := by rw [hkk.out]; simp; omega
        go_wp2
        go_roundw
        case rel =>
          refine ⟨j + 1, by omega, by go_num, ?_, hK5⟩
          have e : seg + ((j + 1 : Nat) : Int) = seg + j + 1 := by omega
          rw [e, rmS_pass (by omega)]
          exact h5
        case measure => simp [intOf]; omega
      · have hd2 : decide (seg + (j : Int) > kk) = true := by rw [hkk.out]; simp; omega
        have hxn := (HQ.out.2 j _ (List.getElem?_eq_getElem hlt)).1
        have hgx : getS (seg + (j : Int)) (rmS (seg + st.length) (seg + j) l) = some l[j] := by
          rw [← hxn]
          exact rmS_get HQ.out _ (List.getElem_mem hlt) (by omega)
        go_wp2_with fail
        refine (remove_some _ h5.dsk hgx).mono ?_
        rintro e w6 ⟨rfl, hD6, hg6⟩
        have hL6 := h5.disk hg6 (hD6.wide' hg6 h5)
        have hK6 := hK5.trans (h5.kptm hg6)
        go_wp2
        go_roundw
        case rel =>
          refine ⟨j + 1, by omega, by go_num, ?_, hK6⟩
          have e : seg + ((j + 1 : Nat) : Int) = seg + j + 1 := by omega
          rw [e, ← rmS_del (by omega)]
          exact hL6
        case measure => simp [intOf]; omega
    · obtain rfl : j = l.length := by omega
      have hjd : decide ((l.length : Int) < (l.length : Int)) = false := by simp
      go_wp2
      go_end0
      refine ⟨rfl, ?_, hK0.trans (hK.mono fun k hk => .inl hk)⟩
      rw [← rmS_end HQ.out st.length]
      exact hL.less fun k hk => .inl hk
set_option maxRecDepth 100000 in
set_option maxHeartbeats 4000000 in
theorem makeSafe_any (w : World) (h : Lgd M w lb sb bm sv l root seg st size next forced) (h0 : 0 ≤ seg) (h1 : seg ≤ 1000000) (bi : List (List Int)) (b : List Int) (hq : Sq seg (bi ++ [b]) l) (hk : st.length = bi.length + 1) (hs : ∀ x ∈ l, x.s = x.b.length) (hz0 : 0 ≤ size) (hz1 : size ≤ b.length) :
    Calls Try.prog 26 #[.pointer (some ⟨lb, 0, none⟩)] w fun e w' => e = .returned (.tuple #[]) ∧ (∃ l', Lgd M w' lb sb bm sv l' root seg st size next forced ∧ Sq seg (bi ++ [b.take size.toNat]) l' ∧ ∀ x ∈ l', x.s = x.b.length) ∧ Kpt M w w' := by
  have c2 := h.c2
  obtain ⟨sa, scap, rfl, _⟩ := own_shape h.row
  have hll := h.dsk.len
  have hlb := hq.1
  simp only [List.length_append, List.length_cons, List.length_nil, Nat.zero_add] at hlb
  have HQ : Hid (Sq seg (bi ++ [b]) l) := hq
  have HS : Hid (∀ x ∈ l, x.s = x.b.length) := hs
  clear hq hs
  go_enter Try.func26, Try.ntmps26
  go_wp2_with fail
  go_loopw [9] (fun i wr => ∃ (j : Nat) (l' : List Sg), j ≤ st.length ∧ i = .int .i64 j ∧ Lgd M wr lb sb bm (.slice sa st.length scap) l' root seg st size next forced ∧ Kpt M w wr ∧ Hid ((j < st.length → l' = l) ∧ (j = st.length → Sq seg (bi ++ [b.take size.toNat]) l' ∧ ∀ x ∈ l', x.s = x.b.length))) (fun i _ => st.length - (intOf i).toNat)
  case atStart => exact ⟨0, l, Nat.zero_le _, rfl, h, Kpt.refl _ _, fun _ => rfl, fun e => by omega⟩
  case round =>
    obtain ⟨j, l', hj, rfl, hL, hK, hH⟩ := hrel
    by_cases hlt : j < st.length
    · obtain rfl := hH.out.1 hlt
      have hjd : decide ((j : Int) < (st.length : Int)) = true := by simp; omega
      have hwj : IntKind.i64.wrap (seg + (j : Int)) = seg + (j : Int) := by rw [IntKind.wrap_i64]; omega
      have c1 := hL.c1
      obtain ⟨x, hxl, hxg, hxb⟩ := HQ.out.get (i := j) (by simp; omega)
      have hxn := (HQ.out.2 j x hxl).1
      go_wp2_with fail
      refine (last_any _ hL (by omega) (by omega) (by omega)).mono ?_
      rintro e w5 ⟨kk, rfl, hkk, hg5⟩
      have h5 := hL.keep hg5
      have hK5 := hK.trans (hL.kpt0 hg5)
      have c05 := h5.c0
      have c35 := h5.c3
      by_cases hin : j + 1 < st.length
      · have hd2 : decide (seg + (j : Int) < kk) = true := by rw [hkk.out]; simp; omega
        go_wp2_with fail
        refine (sync_some _ h5.dsk hxg).mono ?_
        rintro e w6 ⟨rfl, hD6, hg6⟩
        have hL6 := h5.disk hg6 (hD6.wide' hg6 h5)
        have hK6 := hK5.trans (h5.kptm hg6)
        have es : (⟨seg + (j : Int), x.v, x.b, x.b.length⟩ : Sg) = x := by
          have h1 := HS.out x (List.mem_of_getElem? hxl)
          cases x; simp only at h1 hxn ⊢; rw [h1, hxn]
        rw [es, put_same HQ.out hxl] at hL6
        go_wp2
        go_roundw
        case rel => exact ⟨j + 1, l', by omega, by go_num, hL6, hK6, fun _ => rfl, fun e => by omega⟩
        case measure => simp [intOf]; omega
      · obtain rfl : j = bi.length := by omega
        have hd2 : decide (seg + (bi.length : Int) < kk) = false := by rw [hkk.out]; simp; omega
        have exb : x.b = b := by simpa using hxb.symm
        have hkd := h5.keep (grown_drew w5)
        go_wp2_with fail
        go_region_held3 (fun w' => w'.cell? ⟨lb, 0, none⟩ = some (.pointer (some ⟨sb, 0, none⟩)) ∧ w'.cell? ⟨lb, 3, none⟩ = some (.int .i64 size))
          (first
            | go_keep
            | exact ⟨hL6.c0, hL6.c3⟩)
          ((go_at_call 49
            refine (cut_ok _ hkd.dsk hxg size hz0 (by rw [exb]; exact hz1)).mono ?_
            rintro e w6 ⟨rfl, ⟨v6, hD6⟩, hg6⟩
            have hL6 := hkd.disk hg6 hD6
            have hK6 := (hK5.trans (h5.kpt0 (grown_drew w5))).trans (hkd.kptm hg6)))
        all_goals
          obtain ⟨e1, hq6⟩ := HQ.out.at (i := bi.length) (x := ⟨seg + (bi.length : Int), v6, x.b.take size.toNat, size⟩) (by simp) rfl
          go_wp2
          go_roundw
          case rel =>
            refine ⟨bi.length + 1, _, by omega, by go_num, hL6, hK6, fun e => by omega, fun _ => ?_⟩
            rw [e1]
            refine ⟨?_, fun y hy => ?_⟩
            · have e2 : (bi ++ [b]).set bi.length (x.b.take size.toNat) = bi ++ [b.take size.toNat] := by rw [exb]; simp
              rw [← e2]; exact hq6
            · rcases List.mem_or_eq_of_mem_set hy with hy | rfl
              · exact HS.out y hy
              · simp only [List.length_take, exb]; omega
          case measure => simp [intOf]; omega
    · obtain rfl : j = st.length := by omega
      have hjd : decide ((st.length : Int) < (st.length : Int)) = false := by simp
      have hF := hH.out.2 rfl
      go_wp2
      go_end0
      rw [hk] at hL
      exact ⟨rfl, ⟨l', hL, hF.1, hF.2⟩, hK⟩
end
end Go.Proofs.Ytgblekdllcngnaa

/- Open of a disk whose segments rise by one. -/
namespace Go.Proofs.Ytgblekdllcngnaa
open Go.RowKit Go.Shelf Plain Go.IntWalk
set_option linter.unusedVariables false
set_option linter.unusedSimpArgs false

/-- The root tells these two numbers. -/
def Rt (root : List Int) (seg fs : Nat) : Prop := (root = [] ∧ seg = 0 ∧ fs = 0) ∨ root = rootB seg fs
def cut_ (b : List Int) : List Int := b.take (msz b)
theorem readRoot_rt {root : List Int} {seg fs : Nat} (h : Rt root seg fs) (hs : seg ≤ 1000000) (hf : fs ≤ 1000000) (v : Value) (w : World) (hb : Bts w.heap.size w v root) :
    Calls Try.prog 22 #[v] w fun e w' => e = .returned (.tuple #[.int .i64 seg, .int .i64 fs]) ∧ Below w.heap.size w w' := by
  rcases h with ⟨rfl, rfl, rfl⟩ | rfl
  · exact readRoot_empty v w hb
  · exact readRoot_some seg fs (by omega) (by omega) (by omega) (by omega) v w hb
section
variable {M : Nat → Prop} {lb sb bm : Nat} {sv : Value} {l : List Sg} {root : List Int} {size next forced : Int}
theorem makeSafe_k (w : World) {seg fs : Nat} {bs : List (List Int)} {k : Nat} (h : Lgd M w lb sb bm sv l root seg (stC fs ((bs.take k).map cnt)) (szK bs k) next forced) (h1 : seg ≤ 1000000) (hT : Tk bs k) (hq : Sq seg (bs.take k) l) (hs : ∀ x ∈ l, x.s = x.b.length) :
    Calls Try.prog 26 #[.pointer (some ⟨lb, 0, none⟩)] w fun e w' => e = .returned (.tuple #[]) ∧ (∃ l', Lgd M w' lb sb bm sv l' root seg (stC fs ((bs.take k).map cnt)) (szK bs k) next forced ∧ Sq seg ((bs.take k).map cut_) l' ∧ ∀ x ∈ l', x.s = x.b.length) ∧ Kpt M w w' := by
  cases k with
  | zero =>
    refine (makeSafe_none w h).mono ?_
    rintro e w' ⟨rfl, rfl⟩
    exact ⟨rfl, ⟨l, h, hq, hs⟩, Kpt.refl _ _⟩
  | succ k =>
    have hkl := hT.le
    have hb : bs[k]? = some bs[k] := List.getElem?_eq_getElem (by omega)
    have hln : (stC fs ((bs.take (k + 1)).map cnt)).length = (bs.take k).length + 1 := by rw [stC_length]; simp; omega
    have et : bs.take (k + 1) = bs.take k ++ [bs[k]] := by rw [List.take_add_one, hb]; rfl
    have hz := szK_succ hb
    have hm := msz_le bs[k]
    refine (makeSafe_any w h (by omega) (by omega) (bs.take k) bs[k] (by rw [← et]; exact hq) hln hs (by rw [hz]; omega) (by rw [hz]; omega)).mono ?_
    rintro e w' ⟨rfl, ⟨l', hL, hq', hs'⟩, hK⟩
    refine ⟨rfl, ⟨l', hL, ?_, hs'⟩, hK⟩
    have e2 : (bs.take (k + 1)).map cut_ = bs.take k ++ [bs[k].take (szK bs (k + 1)).toNat] := by
      rw [et, List.map_append, hz]
      congr 1
      refine (List.map_congr_left fun b hb => ?_).trans (List.map_id _)
      obtain ⟨i, hi, rfl⟩ := List.mem_iff_getElem.1 hb
      have hi2 : i < min k bs.length := by simpa using hi
      rw [List.getElem_take]
      unfold cut_
      rw [hT.wh i _ (by omega) (List.getElem?_eq_getElem (by omega : i < bs.length))]
      simp
    rw [e2]
    exact hq'
end
set_option maxRecDepth 100000 in
set_option maxHeartbeats 4000000 in
/-- Open of a disk all of whose bytes are safe. -/
theorem open_scan (w : World) {sb bm : Nat} (M : Nat → Prop) (hm : ∀ k, M k → k < w.heap.size) (m2 : ¬ M sb) (m3 : ¬ M bm) {l : List Sg} {root : List Int} (h : Dsk w sb bm (fun k => k ≠ sb ∧ k ≠ bm ∧ ¬ M k) l root)
    (seg fs : Nat) (hs1 : seg ≤ 1000000) (hf1 : fs ≤ 1000000) (hrt : Rt root seg fs) (bs : List (List Int)) (hq : Sq seg bs l) (hsafe : ∀ x ∈ l, x.s = x.b.length) :
    Calls Try.prog 8 #[.pointer (some ⟨sb, 0, none⟩)] w fun e w' => ∃ lb sv k l', e = .returned (.tuple #[.pointer (some ⟨lb, 0, none⟩), .int .i64 0]) ∧ w.heap.size ≤ lb ∧ Tk bs k ∧ Stop bs k ∧
      Lgd M w' lb sb bm sv l' root seg (stC fs ((bs.take k).map cnt)) (szK bs k) ((fs + ((bs.take k).map cnt).sum : Nat) : Int) ((fs + ((bs.take k).map cnt).sum : Nat) : Int) ∧ Sq seg ((bs.take k).map cut_) l' ∧ (∀ x ∈ l', x.s = x.b.length) ∧ Kpt M w w' := by
  have HQ : Hid (Sq seg bs l) := hq
  have HS : Hid (∀ x ∈ l, x.s = x.b.length) := hsafe
  have HR : Hid (Rt root seg fs) := hrt
  clear hq hsafe hrt
  go_enter Try.func8, Try.ntmps8
  go_wp2_with fail
  refine (root_any w h).mono ?_
  rintro e w1 ⟨v1, rfl, hb1, hg1⟩
  obtain ⟨a1, cap1, rfl⟩ := hb1.1.shape
  go_wp2_with fail
  refine (readRoot_rt HR.out hs1 hf1 _ w1 hb1.1).mono ?_
  rintro e w2 ⟨rfl, hB2⟩
  have hg2 := below_grown hB2
  have hg02 := grown_none hg1 hg2
  have hga := World.grownBy_alloc w2 (.cells #[.pointer (some ⟨sb, 0, none⟩), .int .i64 seg, .slice none 0 0, .int .i64 0, .int .i64 fs, .int .i64 0] 57) none
  have hgA := grown_none hg02 hga
  have hs2 := hg02.size
  have hsb := h.sbl
  have hbm := h.bml
  have hL : Lgd M (w2.alloc (.cells #[.pointer (some ⟨sb, 0, none⟩), .int .i64 seg, .slice none 0 0, .int .i64 0, .int .i64 fs, .int .i64 0] 57)) w2.heap.size sb bm (.slice none 0 0) l root seg [] 0 fs 0 := by
    refine ⟨heap_alloc_new w2 _, World.ownsRow_nil _ _ _ _, ?_, by omega, by omega, fun k hk => by simp [Value.ownBlock] at hk, fun e => by have := hm _ e; omega, m2, m3, fun k hk => by have := hm k hk; simp; omega⟩
    refine (h.low.grown0 hgA).mono (fun k hk => ⟨by omega, hk.1.1, hk.1.2.1, by simp [Value.ownBlock], hk.1.2.2⟩) (fun e => e.2.1 rfl) (fun e => e.2.2.1 rfl)
  have hK : Kpt M w (w2.alloc (.cells #[.pointer (some ⟨sb, 0, none⟩), .int .i64 seg, .slice none 0 0, .int .i64 0, .int .i64 fs, .int .i64 0] 57)) := Kpt.of hgA hm (by simp)
  go_wp2_with fail
  refine (findRecords_any _ fs hL (by omega) (by omega) hf1 bs HQ.out).mono ?_
  rintro e w3 ⟨rfl, k, sv3, hT, hSt, hL3, hK3⟩
  have hK3' := hK.trans hK3
  have hln : (stC fs ((bs.take k).map cnt)).length = k := by rw [stC_length]; simp; have := hT.le; omega
  have HT : Hid (Tk bs k) := hT
  have HSt : Hid (Stop bs k) := hSt
  have HN : Hid ((stC fs ((bs.take k).map cnt)).length = k) := hln
  clear hT hSt hln
  go_wp2_with fail
  refine (removeOthers_any _ hL3 (by omega) (by omega) bs HQ.out (by rw [HN.out]; exact HT.out.le)).mono ?_
  rintro e w4 ⟨rfl, hL4, hK4⟩
  rw [HN.out] at hL4
  have hK4' := hK3'.trans hK4
  go_wp2_with fail
  refine (makeSafe_k _ hL4 hs1 HT.out (HQ.out.take k) (fun x hx => HS.out x (List.mem_of_mem_take hx))).mono ?_
  rintro e w5 ⟨rfl, ⟨l5, hL5, hq5, hs5⟩, hK5⟩
  have HQ5 : Hid (Sq seg ((bs.take k).map cut_) l5) := hq5
  have HS5 : Hid (∀ x ∈ l5, x.s = x.b.length) := hs5
  clear hq5 hs5
  obtain ⟨N, hN⟩ : ∃ N : Int, ((fs + ((bs.take k).map cnt).sum : Nat) : Int) = N := ⟨_, rfl⟩
  obtain ⟨z, hz⟩ : ∃ z, szK bs k = z := ⟨_, rfl⟩
  obtain ⟨st, hst⟩ : ∃ st, stC fs ((bs.take k).map cnt) = st := ⟨_, rfl⟩
  have HE : Hid (((fs + ((bs.take k).map cnt).sum : Nat) : Int) = N ∧ szK bs k = z ∧ stC fs ((bs.take k).map cnt) = st) := ⟨hN, hz, hst⟩
  rw [hN, hz, hst] at hL5
  clear hN hz hst
  have c4 := hL5.c4
  have f5 := hL5.fz 5
  have c5 := hL5.c5
  have hc := hL5.cell 5 (.int .i64 N) (seg' := seg) (size' := z) (next' := N) (forced' := N) rfl
  go_wp2
  go_ret2
  refine ⟨w2.heap.size, sv3, k, l5, rfl, hs2, HT.out, HSt.out, ?_, HQ5.out, HS5.out, (hK4'.trans hK5).trans hc.2⟩
  rw [HE.out.1, HE.out.2.1, HE.out.2.2]
  exact hc.1
end Go.Proofs.Ytgblekdllcngnaa
