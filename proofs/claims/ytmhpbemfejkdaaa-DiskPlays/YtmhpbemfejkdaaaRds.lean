/- What can be read of a disk, by its segments' numbers, bytes and safe bytes alone; and what power leaves of them. -/
import Derived.Test.YtmhpbemfejkdaaaLater
namespace Go.Proofs.Ytmhpbemfejkdaaa
open Go.RowKit Go.IntWalk Go.Maps Go.Sort
set_option linter.unusedVariables false

def getA (n : Int) (m : List (Int × List Int × Int)) : Option (Int × List Int × Int) := m.find? fun y => decide (y.1 = n)
def bytesA (n : Int) (m : List (Int × List Int × Int)) : List Int := match getA n m with | some y => y.2.1 | none => []
def safeA (n : Int) (m : List (Int × List Int × Int)) : Int := match getA n m with | some y => y.2.2 | none => 0
def errA (n : Int) (m : List (Int × List Int × Int)) : Int := match getA n m with | some _ => 0 | none => 31
theorem getA_map (n : Int) (l : List Sg) : getA n (l.map Sg.abs) = (getS n l).map Sg.abs := by
  simp only [getA, getS, List.find?_map]
  rfl
theorem read_any (w : World) {sb bm : Nat} {N : Nat → Prop} {l : List Sg} {root : List Int} (h : Dsk w sb bm N l root) {n : Int} (h0 : -9223372036854775808 ≤ n) (h1 : n < 9223372036854775808) :
    Calls Try.prog 17 #[.pointer (some ⟨sb, 0, none⟩), .int .i64 n] w fun r w' => ∃ v', r = .returned (.tuple #[v', .int .i64 (errA n (l.map Sg.abs))]) ∧ Btx (fun i => w.heap.size ≤ i) w' v' (bytesA n (l.map Sg.abs)) ∧ w.grownBy w' none := by
  cases hx : getS n l with
  | some x =>
    have e1 : errA n (l.map Sg.abs) = 0 := by simp [errA, getA_map, hx]
    have e2 : bytesA n (l.map Sg.abs) = x.b := by simp [bytesA, getA_map, hx, Sg.abs]
    rw [e1, e2]
    exact read_some w h hx
  | none =>
    have e1 : errA n (l.map Sg.abs) = 31 := by simp [errA, getA_map, hx]
    have e2 : bytesA n (l.map Sg.abs) = [] := by simp [bytesA, getA_map, hx]
    rw [e1, e2]
    exact read_none w h h0 h1 hx
theorem safe_any (w : World) {sb bm : Nat} {N : Nat → Prop} {l : List Sg} {root : List Int} (h : Dsk w sb bm N l root) {n : Int} (h0 : -9223372036854775808 ≤ n) (h1 : n < 9223372036854775808) :
    Calls Try.prog 26 #[.pointer (some ⟨sb, 0, none⟩), .int .i64 n] w fun r w' => r = .returned (.int .i64 (safeA n (l.map Sg.abs))) ∧ w.grownBy w' none := by
  cases hx : getS n l with
  | some x =>
    have e1 : safeA n (l.map Sg.abs) = x.s := by simp [safeA, getA_map, hx, Sg.abs]
    rw [e1]
    exact safe_some w h hx
  | none =>
    have e1 : safeA n (l.map Sg.abs) = 0 := by simp [safeA, getA_map, hx]
    rw [e1]
    exact safe_none w h h0 h1 hx
theorem mem_powS {ks : List Int} {l : List Sg} {y : Int × List Int × Int} : y ∈ powS ks l ↔ ∃ (i : Nat) (x : Sg), l[i]? = some x ∧ y ∈ pwItem ks[i]? x := by
  simp only [powS, powN, List.mem_flatMap, List.mem_range]
  constructor
  · rintro ⟨i, hi, hy⟩
    cases hx : l[i]? with
    | none => simp [hx] at hy
    | some x =>
      rw [hx] at hy
      exact ⟨i, x, hx, hy⟩
  · rintro ⟨i, x, hx, hy⟩
    refine ⟨i, ?_, by rw [hx]; exact hy⟩
    rcases Nat.lt_or_ge i l.length with h | h
    · exact h
    · rw [List.getElem?_eq_none h] at hx; cases hx
theorem pwItem_n {k : Option Int} {x : Sg} {y : Int × List Int × Int} (h : y ∈ pwItem k x) : y = (x.n, x.b.take (pn k x).toNat, pn k x) ∧ 0 < pn k x := by
  unfold pwItem at h
  split at h
  · simp at h
    exact ⟨h, by assumption⟩
  · simp at h
theorem Up.idx {l : List Sg} (h : Up l) {i j : Nat} {x y : Sg} (hx : l[i]? = some x) (hy : l[j]? = some y) (e : x.n = y.n) : i = j := by
  have hi : i < l.length := by
    rcases Nat.lt_or_ge i l.length with h | h
    · exact h
    · rw [List.getElem?_eq_none h] at hx; cases hx
  have hj : j < l.length := by
    rcases Nat.lt_or_ge j l.length with h | h
    · exact h
    · rw [List.getElem?_eq_none h] at hy; cases hy
  rw [List.getElem?_eq_getElem hi] at hx
  rw [List.getElem?_eq_getElem hj] at hy
  cases hx
  cases hy
  rcases Nat.lt_trichotomy i j with hlt | rfl | hlt
  · have := List.pairwise_iff_getElem.1 h i j hi hj hlt
    omega
  · rfl
  · have := List.pairwise_iff_getElem.1 h j i hj hi hlt
    omega
theorem pow_get {ks : List Int} {l : List Sg} (hu : Up l) {i : Nat} {x : Sg} (hx : l[i]? = some x) : getA x.n (powS ks l) = if 0 < pn ks[i]? x then some (x.n, x.b.take (pn ks[i]? x).toNat, pn ks[i]? x) else none := by
  cases hg : getA x.n (powS ks l) with
  | none =>
    have hn := List.find?_eq_none.1 hg
    split
    · rename_i hp
      have := hn (x.n, x.b.take (pn ks[i]? x).toNat, pn ks[i]? x) (mem_powS.2 ⟨i, x, hx, by simp [pwItem, hp]⟩)
      simp at this
    · rfl
  | some y =>
    have h1 := List.mem_of_find?_eq_some hg
    have h2 : y.1 = x.n := by simpa using List.find?_some hg
    obtain ⟨j, z, hz, hy⟩ := mem_powS.1 h1
    obtain ⟨he, hp⟩ := pwItem_n hy
    have e : z.n = x.n := by rw [← h2, he]
    obtain rfl := hu.idx hz hx e
    rw [hz] at hx
    cases hx
    rw [if_pos hp, he]
/-- What is left of a segment can be read. -/
theorem pow_bytes {ks : List Int} {l : List Sg} (hu : Up l) {i : Nat} {x : Sg} (hx : l[i]? = some x) (h0 : 0 ≤ x.s) (h1 : x.s ≤ x.b.length) :
    bytesA x.n (powS ks l) = x.b.take (pn ks[i]? x).toNat ∧ safeA x.n (powS ks l) = pn ks[i]? x := by
  have hp := pn_lo (k := ks[i]?) h0 h1
  unfold bytesA safeA
  rw [pow_get hu hx]
  by_cases h : 0 < pn ks[i]? x
  · simp [h]
  · have e : pn ks[i]? x = 0 := by omega
    simp [e]
/-- Power that goes again leaves the same. -/
theorem pow_again {ks : List Int} {l : List Sg} (h : ∀ x ∈ l, x.s = x.b.length ∧ 0 < x.s) : powS ks l = l.map Sg.abs := by
  have hi : ∀ i x, l[i]? = some x → pwItem ks[i]? x = [x.abs] := fun i x hx => by
    obtain ⟨h1, h2⟩ := h x (List.mem_of_getElem? hx)
    have e : pn ks[i]? x = x.s := by
      cases ks[i]? with
      | none => rfl
      | some k =>
        have := cr_lo k (x.b.length - x.s) (by omega)
        have := cr_hi k (x.b.length - x.s) (by omega)
        unfold pn
        dsimp only
        omega
    rw [pwItem, e, if_pos h2, h1]
    simp [Sg.abs, h1]
  have hj : ∀ j, j ≤ l.length → powN ks l j = (l.take j).map Sg.abs := by
    intro j
    induction j with
    | zero => intro _; rfl
    | succ j ih =>
      intro hle
      have hx : l[j]? = some l[j] := List.getElem?_eq_getElem (by omega)
      rw [powN_succ hx, ih (by omega), hi j _ hx, List.take_add_one, hx, List.map_append]
      rfl
  have := hj l.length (Nat.le_refl _)
  rwa [List.take_length] at this
theorem powS_safe {ks : List Int} {l : List Sg} (hs : ∀ x ∈ l, 0 ≤ x.s ∧ x.s ≤ x.b.length) : ∀ y ∈ powS ks l, y.2.2 = y.2.1.length ∧ 0 < y.2.2 := fun y hy => by
  obtain ⟨i, x, hx, hm⟩ := mem_powS.1 hy
  obtain ⟨rfl, hp⟩ := pwItem_n hm
  obtain ⟨h0, h1⟩ := hs x (List.mem_of_getElem? hx)
  have := pn_lo (k := ks[i]?) h0 h1
  refine ⟨?_, hp⟩
  show pn ks[i]? x = ((x.b.take (pn ks[i]? x).toNat).length : Int)
  rw [List.length_take]
  omega
theorem lat_safe_any {w : World} {sb bm : Nat} {N : Nat → Prop} {l : List Sg} {root : List Int} (h : Dsk w sb bm N l root) {n : Int} (h0 : -9223372036854775808 ≤ n) (h1 : n < 9223372036854775808) {s : Int} (hs : Hid (s = safeA n (l.map Sg.abs))) (p : Lat w) :
    Calls Try.prog 26 #[.pointer (some ⟨sb, 0, none⟩), .int .i64 n] p.W fun e w'' => e = .returned (.int .i64 s) ∧ ∃ p' : Lat w, w'' = p'.W :=
  (safe_any p.W (h.grown0 p.h) h0 h1).mono fun e w'' ⟨he, hB⟩ => ⟨by rw [he, hs.out], ⟨w'', grown_none p.h hB⟩, rfl⟩
end Go.Proofs.Ytmhpbemfejkdaaa
