/- A node and its only kid become one. -/
import Derived.Test.YtpcdmjalfabbmaaPar
namespace Go.Proofs.Ytpcdmjalfabbmaa
open Go.RowKit Go.IntWalk Go.Maps
set_option linter.unusedVariables false
theorem bt_sum (W : World) (a b : K) (h : a.length + b.length ≤ 1000000) : (Op.stringOp .add (bt a) (bt b)).run Try.prog W = .ok (.string (bt (a ++ b))) W := by
  rw [run_string_add_sum W _ _ (by rw [bt_size, bt_size]; omega), bt_app]
open Go.WideElems (Fit rd rg rd_key rg_of) in
/-- What is still to come is there. -/
theorem left_has {w : World} {b r n : Nat} {D : DataW Value} {left : Lit → Bool} {cnt : Nat} (h : w.ranges Try.prog 5 pElem b r n D left cnt) {kl : Lit} (hk : left kl = true) : ∃ c : UInt8, kl = kc c ∧ Maps.has D (kc c) = true := by
  obtain ⟨es, clock, since, seen, c0, hb, F, hs, rfl, hr, hold, hc, hl1, hl2, hsc, hsk⟩ := h
  obtain ⟨x, hx, rfl⟩ := hl2 kl hk
  obtain ⟨y, hy⟩ := F.reads x hx
  obtain ⟨c, _, hkc⟩ := inv5 (rd_key hy)
  have e0 := rg_of hy
  generalize hX : rg Try.prog 5 pElem x = X at *
  subst e0
  have e1 : X.1 = kc c := hkc
  refine ⟨c, e1, List.any_eq_true.2 ⟨X, mem_sorted.2 (List.mem_map.2 ⟨x, hx, hX⟩), ?_⟩⟩
  rw [e1]
  exact WideAt.sameKey_self (kc_key c)
set_option maxRecDepth 100000 in
set_option maxHeartbeats 2000000 in
/-- node.absorb. -/
theorem absorb_any (w : World) (nk nq : Nat) (l1 l2 : K) (v0 v : ByteArray) (b0 b : Bool) (m mq : Nat) {f : UInt8 → Option Nat} {c : UInt8} (hl : l1.length + l2.length ≤ 1000000) (hb : w.heap[nk]? = some (nobj l1 v0 b0 m)) (hq : w.heap[nq]? = some (nobj l2 v b mq)) (hne : nq ≠ nk)
    (hkm : Km w m f) (hc : f c = some nq) (h1 : ∀ d, (f d).isSome = true ↔ d = c) :
    Calls Try.prog 41 #[ptr nk] w fun r w' => r = .returned (.tuple #[]) ∧ w'.heap[nk]? = some (nobj (l1 ++ l2) v b mq) ∧ w.grownBy w' (some nk) := by
  obtain ⟨D, hown, hD1, hD2, _⟩ := hkm.own
  have k3 : w.cell? ⟨nk, 3, none⟩ = some (.map (some m)) := by simp [World.cell?, hb]
  have hmn : m ≠ nk := by
    intro e'
    obtain ⟨es, clock, h2⟩ := hkm.isMap
    rw [e', hb] at h2
    cases h2
  have hnkl : nk < w.heap.size := (Array.getElem?_eq_some_iff.1 hb).1
  have hnql : nq < w.heap.size := (Array.getElem?_eq_some_iff.1 hq).1
  have hml := hkm.lt
  clear hkm
  go_enter Try.func41, Try.ntmps41
  go_wp2_with (first
    | (at_range; refine wpList_range_own _ rfl _ 62 rfl 5 56 keyed5 Try.underlying62 pElem m (Maps.size D) D rfl hown ?_; intro w0 hrg0 hg0 hs0)
    | go_in)
  go_frame
  go_loopw [3] (fun o wr => ∃ (left : Lit → Bool) (cnt : Nat), wr.ranges Try.prog 5 pElem m w.heap.size (Maps.size D) D left cnt ∧
      ((left (kc c) = true ∧ Hid (w.grownBy wr none)) ∨ (Hid (∀ kl, left kl = false) ∧ Hid (wr.heap[nk]? = some (nobj (l1 ++ l2) v b mq) ∧ w.grownBy wr (some nk)))))
    (fun _ wr => wr.rangeLeft m w.heap.size)
  case atStart => exact ⟨_, _, hrg0, .inl ⟨by rw [hD1, hc]; rfl, ⟨hg0⟩⟩⟩
  case round =>
    obtain ⟨left, cnt, hrg, hcase⟩ := hrel
    go_wp2_with (first
      | (at_next; refine wpList_next_ranges _ rfl _ rfl 5 keyed5 pElem (fun d : UInt8 => Value.int .u8 d.toNat) (fun a : Option Addr => Value.pointer a) (fun key kl hk => by obtain ⟨x, hx, _⟩ := inv5 hk; exact ⟨x, hx⟩) (fun v y hv => pElem_shape hv) m w.heap.size (Maps.size D) _ _ _ rfl hrg ?_ ?_)
      | go_in)
    · intro hc0 hl0
      rcases hcase with ⟨hlc, _⟩ | ⟨_, hB⟩
      · rw [hl0] at hlc; cases hlc
      · go_wp2
        go_end0
        exact ⟨rfl, hB.out⟩
    · intro x a kl yd yp w2 cnt2 hkey hlk hv hat hrg2 hlt hg2 hs2 hen
      obtain ⟨x', ex, rfl⟩ := inv5 hkey
      have hxx : x = x' := by
        simp only [Value.int.injEq, true_and] at ex
        exact UInt8.toNat_inj.1 (by omega)
      subst hxx
      rcases hcase with ⟨hlc, hA⟩ | ⟨hlf, _⟩
      · have hhas : Maps.has D (kc x) = true := has_true_of_atKey hat
        rw [hD1] at hhas
        have hxc : x = c := (h1 x).1 hhas
        subst hxc
        have hyd := pElem_inv hv
        simp only [Prod.mk.injEq] at hyd
        have h3 := hD2 x nq hc (.held (.pointer none))
        rw [hat, hyd.1] at h3
        have ha : a = some ⟨nq, 0, none⟩ := by simpa using h3
        subst ha
        have hr := hrg.lt
        have hg : w.grownBy w2 none := hA.out.andThen hg2 fun j hj => .inl (by cases hj; exact Nat.le_refl _)
        have bk := (hg.block nk hnkl (by simp)).trans hb
        have bq := (hg.block nq hnql (by simp)).trans hq
        have a0 : w2.cell? ⟨nk, 0, none⟩ = some (.string (bt l1)) := by simp [World.cell?, bk]
        have a1 : w2.cell? ⟨nk, 1, none⟩ = some (.string v0) := by simp [World.cell?, bk]
        have a2 : w2.cell? ⟨nk, 2, none⟩ = some (.bool b0) := by simp [World.cell?, bk]
        have a3 : w2.cell? ⟨nk, 3, none⟩ = some (.map (some m)) := by simp [World.cell?, bk]
        have z0 : w2.cell? ⟨nq, 0, none⟩ = some (.string (bt l2)) := by simp [World.cell?, bq]
        have z1 : w2.cell? ⟨nq, 1, none⟩ = some (.string v) := by simp [World.cell?, bq]
        have z2 : w2.cell? ⟨nq, 2, none⟩ = some (.bool b) := by simp [World.cell?, bq]
        have z3 : w2.cell? ⟨nq, 3, none⟩ = some (.map (some mq)) := by simp [World.cell?, bq]
        have fk : ∀ i, w2.frozen? ⟨nk, i, none⟩ = false := fun i => by simp [World.frozen?, bk]
        have hsum := fun W => bt_sum W l1 l2 hl
        have hne2 : nk ≠ nq := hne.symm
        replace h1 : Hid _ := ⟨h1⟩
        replace hD1 : Hid _ := ⟨hD1⟩
        have hL : Hid (w.grownBy w2 none ∧ w2.heap[nk]? = some (nobj l1 v0 b0 m) ∧ wr.heap.size = w2.heap.size ∧ nk < w.heap.size) := ⟨hg, bk, hs2.symm, hnkl⟩
        clear hr hg bk bq hs2 h3 hyd hhas hA hlc hat hv hkey hrg0 hg0 hs0 hown hD2 hc hb hq k3 hnkl hnql hml
        go_wp2_with fail
        go_region
        have g1 : w2.grownBy (w2.setCell ⟨nk, 0, none⟩ (Value.string (bt (l1 ++ l2)))).drew (some nk) := (grown_setCell w2 ⟨nk, 0, none⟩ (Value.string (bt (l1 ++ l2)))).andThen (grown_drew _) (by simp)
        have b1 : (w2.setCell ⟨nk, 0, none⟩ (Value.string (bt (l1 ++ l2)))).drew.heap[nk]? = some (nobj (l1 ++ l2) v0 b0 m) := heap_set hL.out.2.1 0 _
        generalize (w2.setCell ⟨nk, 0, none⟩ (Value.string (bt (l1 ++ l2)))).drew = w3 at *
        have hne3 : some nq ≠ some nk := by simpa using hne
        have d1 : w3.cell? ⟨nk, 1, none⟩ = some (.string v0) := by simp [World.cell?, b1]
        have d2 : w3.cell? ⟨nk, 2, none⟩ = some (.bool b0) := by simp [World.cell?, b1]
        have d3 : w3.cell? ⟨nk, 3, none⟩ = some (.map (some m)) := by simp [World.cell?, b1]
        have e1 := g1.cell z1 hne3
        have e2 := g1.cell z2 hne3
        have e3 := g1.cell z3 hne3
        have fk3 : ∀ i, w3.frozen? ⟨nk, i, none⟩ = false := fun i => by simp [World.frozen?, b1]
        clear a0 a1 a2 a3 z0 z1 z2 z3 fk hsum hne3
        replace g1 : Hid _ := ⟨g1⟩
        replace b1 : Hid _ := ⟨b1⟩
        go_wp2_with fail
        go_region
        have g4 : w3.grownBy (((w3.setCell ⟨nk, 1, none⟩ (Value.string v)).setCell ⟨nk, 2, none⟩ (Value.bool b)).setCell ⟨nk, 3, none⟩ (Value.map (some mq))).drew (some nk) :=
          (((grown_setCell w3 ⟨nk, 1, none⟩ (Value.string v)).trans (grown_setCell _ ⟨nk, 2, none⟩ (Value.bool b))).trans (grown_setCell _ ⟨nk, 3, none⟩ (Value.map (some mq)))).andThen (grown_drew _) (by simp)
        have b4 : (((w3.setCell ⟨nk, 1, none⟩ (Value.string v)).setCell ⟨nk, 2, none⟩ (Value.bool b)).setCell ⟨nk, 3, none⟩ (Value.map (some mq))).drew.heap[nk]? = some (nobj (l1 ++ l2) v b mq) := heap_set (heap_set (heap_set b1.out 1 (.string v)) 2 (.bool b)) 3 (.map (some mq))
        generalize (((w3.setCell ⟨nk, 1, none⟩ (Value.string v)).setCell ⟨nk, 2, none⟩ (Value.bool b)).setCell ⟨nk, 3, none⟩ (Value.map (some mq))).drew = w4 at *
        have hm2 : some m ≠ some nk := by simpa using hmn
        have hr2 : some w.heap.size ≠ some nk := by have := hL.out.2.2.2; simp; omega
        have hrg4 := (hrg2.kept g1.out hm2 hr2).kept g4 hm2 hr2
        replace g4 : Hid _ := ⟨g4⟩
        replace b4 : Hid _ := ⟨b4⟩
        clear d1 d2 d3 e1 e2 e3 fk3 hm2 hr2
        go_wp2_with fail
        go_roundw
        case rel =>
          refine ⟨_, cnt2, hrg4, .inr ⟨⟨fun kl => ?_⟩, ⟨b4.out, ((hL.out.1.but (some nk)).trans g1.out).trans g4.out⟩⟩⟩
          cases hlk2 : left kl with
          | false => rfl
          | true =>
            obtain ⟨d, rfl, hd⟩ := left_has hrg hlk2
            have hdx := h1.out d
            rw [← hD1.out, hd] at hdx
            have hdx := hdx.1 rfl
            subst hdx
            rw [WideAt.sameKey_self (kc_key _)]
            rfl
        case measure => rw [hrg4.left_eq, hrg.left_eq]; exact hlt
      · rw [hlf.out] at hlk; cases hlk
end Go.Proofs.Ytpcdmjalfabbmaa
