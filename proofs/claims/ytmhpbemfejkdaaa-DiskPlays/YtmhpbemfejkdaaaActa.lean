/- What an act makes of segments, by their numbers, bytes and safe bytes alone: the disk and the document's disk do the same. -/
import Derived.Test.YtmhpbemfejkdaaaRpow
import Derived.Test.YtmhpbemfejkdaaaAlik
namespace Go.Proofs.Ytmhpbemfejkdaaa
open Go.RowKit Go.IntWalk Go.Maps Go.Sort
set_option linter.unusedVariables false
set_option linter.unusedSimpArgs false

abbrev AL := List (Int × List Int × Int)
def putA (x : Int × List Int × Int) (m : AL) : AL := m.filter (fun y => decide (y.1 < x.1)) ++ x :: m.filter (fun y => decide (x.1 < y.1))
def delA (n : Int) (m : AL) : AL := m.filter (fun y => !decide (y.1 = n))
def orA (n : Int) (m : AL) : Int × List Int × Int := (getA n m).getD (n, [], 0)
def fitA (n : Int) (k : Nat) (m : AL) : Bool := decide (0 ≤ n) && decide ((orA n m).2.1.length + k ≤ 1024) && ((getA n m).isSome || decide (m.length < 128))
theorem put_abs (x : Sg) (l : List Sg) : (putS x l).map Sg.abs = putA x.abs (l.map Sg.abs) := by
  simp only [putS, putA, List.map_append, List.map_cons, List.filter_map]
  rfl
theorem del_abs (n : Int) (l : List Sg) : (delS n l).map Sg.abs = delA n (l.map Sg.abs) := by
  simp only [delS, delA, List.filter_map]
  rfl
theorem or_abs (n : Int) (l : List Sg) : orA n (l.map Sg.abs) = (orS n l).abs := by
  simp only [orA, orS, getA_map]
  cases getS n l <;> rfl
theorem fit_abs (n : Int) (k : Nat) (l : List Sg) : fitA n k (l.map Sg.abs) = fits n k l := by
  simp only [fitA, fits, or_abs, getA_map, List.length_map]
  cases getS n l <;> rfl
def apA (n : Int) (zs : List Int) (m : AL) : Int × AL := if fitA n zs.length m then (0, putA (n, (orA n m).2.1 ++ zs, (orA n m).2.2) m) else (31, m)
def syA (n : Int) (m : AL) : Int × AL := match getA n m with | some y => (0, putA (n, y.2.1, y.2.1.length) m) | none => (31, m)
def cuA (n k : Int) (m : AL) : Int × AL := match getA n m with | some y => if 0 ≤ k ∧ k ≤ y.2.1.length then (0, putA (n, y.2.1.take k.toNat, k) m) else (31, m) | none => (31, m)
def reA (n : Int) (m : AL) : Int × AL := match getA n m with | some _ => (0, delA n m) | none => (31, m)
def swA (zs root : List Int) : Int × List Int := if zs.length ≤ 1024 then (0, zs) else (32, root)
/-- A disk behind an act. -/
def DAct (w : World) (sb bm : Nat) (N : Nat → Prop) (root : List Int) (q : Int × AL) (r : Ending) (w' : World) : Prop :=
  ∃ N' l', r = .returned (.int .i64 q.1) ∧ Dsk w' sb bm N' l' root ∧ l'.map Sg.abs = q.2 ∧ (∀ k, N' k → Or_ N w k) ∧ w.grownBy w' (some bm)
def RAct (w : World) (rb : Nat) (M : Nat → Prop) (root : List Int) (q : Int × AL) (r : Ending) (w' : World) : Prop :=
  ∃ M' l', r = .returned (.int .i64 q.1) ∧ Rsk w' rb M' l' root ∧ l'.map Sg.abs = q.2 ∧ (∀ k, M' k → Or_ M w k) ∧ w.grownBy w' (some rb)
variable (w : World) {sb bm rb : Nat} {N : Nat → Prop} {l : List Sg} {root : List Int}
theorem d_append (h : Dsk w sb bm N l root) (n : Int) (h0 : -9223372036854775808 ≤ n) (h1 : n < 9223372036854775808) (v : Value) (zs : List Int) (hz : Bts w.heap.size w v zs) :
    Calls Try.prog 9 #[.pointer (some ⟨sb, 0, none⟩), .int .i64 n, v] w (DAct w sb bm N root (apA n zs (l.map Sg.abs))) := by
  refine (append_any w h n h0 h1 v zs hz).mono ?_
  rintro r w' (⟨hf, rfl, ⟨v', hd⟩, hg⟩ | ⟨hf, rfl, hg⟩)
  · rw [apA, fit_abs, if_pos hf]
    exact ⟨_, _, rfl, hd, by rw [put_abs, or_abs]; rfl, fun k hk => hk, hg⟩
  · rw [apA, fit_abs, hf]
    exact ⟨_, _, rfl, h.grown0 hg, rfl, fun k hk => .inl hk, hg.but _⟩
theorem d_sync (h : Dsk w sb bm N l root) (n : Int) (h0 : -9223372036854775808 ≤ n) (h1 : n < 9223372036854775808) :
    Calls Try.prog 11 #[.pointer (some ⟨sb, 0, none⟩), .int .i64 n] w (DAct w sb bm N root (syA n (l.map Sg.abs))) := by
  cases hx : getS n l with
  | some x =>
    refine (sync_some w h hx).mono ?_
    rintro r w' ⟨rfl, hd, hg⟩
    refine ⟨_, _, ?_, hd, ?_, fun k hk => .inl hk, hg⟩ <;> simp only [syA, getA_map, hx, Option.map_some, put_abs] <;> rfl
  | none =>
    refine (sync_core w _ n 31 (by decide) (find_none w h h0 h1 hx)).mono ?_
    rintro r w' ⟨rfl, hg⟩
    refine ⟨_, _, ?_, h.grown0 hg, ?_, fun k hk => .inl hk, hg.but _⟩ <;> simp only [syA, getA_map, hx, Option.map_none]
theorem d_cut (h : Dsk w sb bm N l root) (n k : Int) (h0 : -9223372036854775808 ≤ n) (h1 : n < 9223372036854775808) :
    Calls Try.prog 13 #[.pointer (some ⟨sb, 0, none⟩), .int .i64 n, .int .i64 k] w (DAct w sb bm N root (cuA n k (l.map Sg.abs))) := by
  cases hx : getS n l with
  | some x =>
    by_cases hk : k < 0 ∨ x.b.length < k
    · have hno : ¬ (0 ≤ k ∧ k ≤ (x.abs.2.1.length : Int)) := by show ¬ (0 ≤ k ∧ k ≤ (x.b.length : Int)); omega
      refine (cut_bad w h hx k hk).mono ?_
      rintro r w' ⟨rfl, hg⟩
      refine ⟨_, _, ?_, h.grown0 hg, ?_, fun k hk => .inl hk, hg.but _⟩ <;> simp only [cuA, getA_map, hx, Option.map_some, if_neg hno]
    · have hyes : 0 ≤ k ∧ k ≤ (x.abs.2.1.length : Int) := by show 0 ≤ k ∧ k ≤ (x.b.length : Int); omega
      refine (cut_ok w h hx k (by omega) (by omega)).mono ?_
      rintro r w' ⟨rfl, ⟨v', hd⟩, hg⟩
      refine ⟨_, _, ?_, hd, ?_, fun k hk => hk, hg⟩ <;> simp only [cuA, getA_map, hx, Option.map_some, if_pos hyes, put_abs] <;> rfl
  | none =>
    refine (cut_core w _ n k 31 (by decide) (find_none w h h0 h1 hx)).mono ?_
    rintro r w' ⟨rfl, hg⟩
    refine ⟨_, _, ?_, h.grown0 hg, ?_, fun k hk => .inl hk, hg.but _⟩ <;> simp only [cuA, getA_map, hx, Option.map_none]
theorem d_remove (h : Dsk w sb bm N l root) (n : Int) (h0 : -9223372036854775808 ≤ n) (h1 : n < 9223372036854775808) :
    Calls Try.prog 15 #[.pointer (some ⟨sb, 0, none⟩), .int .i64 n] w (DAct w sb bm N root (reA n (l.map Sg.abs))) := by
  cases hx : getS n l with
  | some x =>
    refine (remove_some w h hx).mono ?_
    rintro r w' ⟨rfl, hd, hg⟩
    refine ⟨_, _, ?_, hd, ?_, fun k hk => .inl hk, hg⟩ <;> simp only [reA, getA_map, hx, Option.map_some, del_abs]
  | none =>
    refine (remove_core w _ n 31 (by decide) (find_none w h h0 h1 hx)).mono ?_
    rintro r w' ⟨rfl, hg⟩
    refine ⟨_, _, ?_, h.grown0 hg, ?_, fun k hk => .inl hk, hg.but _⟩ <;> simp only [reA, getA_map, hx, Option.map_none]
theorem d_swap (h : Dsk w sb bm N l root) (v : Value) (zs : List Int) (hz : Bts w.heap.size w v zs) :
    Calls Try.prog 19 #[.pointer (some ⟨sb, 0, none⟩), v] w fun r w' => ∃ N', r = .returned (.int .i64 (swA zs root).1) ∧ Dsk w' sb bm N' l (swA zs root).2 ∧ (∀ k, N' k → Or_ N w k) ∧ w.grownBy w' (some sb) := by
  by_cases hl : zs.length ≤ 1024
  · refine (swap_ok w h v zs hz hl).mono ?_
    rintro r w' ⟨rfl, hd, hg⟩
    rw [swA, if_pos hl]
    exact ⟨_, rfl, hd, fun k hk => hk, hg⟩
  · obtain ⟨a, cap, rfl⟩ := hz.shape
    refine (swap_long w sb a zs.length cap (by simp; omega)).mono ?_
    rintro r w' ⟨rfl, rfl⟩
    rw [swA, if_neg hl]
    exact ⟨_, rfl, h, fun k hk => .inl hk, (grown_refl _).but _⟩
theorem r_append (h : Rsk w rb N l root) (n : Int) (h1 : n < 9223372036854775808) (v : Value) (zs : List Int) (hz : Bts w.heap.size w v zs) (hzl : zs.length ≤ 2000) :
    Calls Try.prog 10 #[.pointer (some ⟨rb, 0, none⟩), .int .i64 n, v] w (RAct w rb N root (apA n zs (l.map Sg.abs))) := by
  refine (rappend_any w h n h1 v zs hz hzl).mono ?_
  rintro r w' (⟨hf, rfl, ⟨v', hd⟩, hg⟩ | ⟨hf, rfl, hg⟩)
  · rw [apA, fit_abs, if_pos hf]
    exact ⟨_, _, rfl, hd, by rw [put_abs, or_abs]; rfl, fun k hk => hk, hg⟩
  · rw [apA, fit_abs, hf]
    exact ⟨_, _, rfl, h.grown0 hg, rfl, fun k hk => .inl hk, hg.but _⟩
theorem r_sync (h : Rsk w rb N l root) (n : Int) :
    Calls Try.prog 12 #[.pointer (some ⟨rb, 0, none⟩), .int .i64 n] w (RAct w rb N root (syA n (l.map Sg.abs))) := by
  cases hx : getS n l with
  | some x =>
    refine (rsync_some w h hx).mono ?_
    rintro r w' ⟨rfl, hd, hg⟩
    refine ⟨_, _, ?_, hd, ?_, fun k hk => hk, hg⟩ <;> simp only [syA, getA_map, hx, Option.map_some, put_abs] <;> rfl
  | none =>
    refine (rsync_none w h hx).mono ?_
    rintro r w' ⟨rfl, rfl⟩
    refine ⟨_, _, ?_, h, ?_, fun k hk => .inl hk, (grown_refl _).but _⟩ <;> simp only [syA, getA_map, hx, Option.map_none]
theorem r_cut (h : Rsk w rb N l root) (n k : Int) :
    Calls Try.prog 14 #[.pointer (some ⟨rb, 0, none⟩), .int .i64 n, .int .i64 k] w (RAct w rb N root (cuA n k (l.map Sg.abs))) := by
  cases hx : getS n l with
  | some x =>
    by_cases hk : k < 0 ∨ x.b.length < k
    · have hno : ¬ (0 ≤ k ∧ k ≤ (x.abs.2.1.length : Int)) := by show ¬ (0 ≤ k ∧ k ≤ (x.b.length : Int)); omega
      refine (rcut_bad w h k hx hk).mono ?_
      rintro r w' ⟨rfl, rfl⟩
      refine ⟨_, _, ?_, h, ?_, fun k hk => .inl hk, (grown_refl _).but _⟩ <;> simp only [cuA, getA_map, hx, Option.map_some, if_neg hno]
    · have hyes : 0 ≤ k ∧ k ≤ (x.abs.2.1.length : Int) := by show 0 ≤ k ∧ k ≤ (x.b.length : Int); omega
      refine (rcut_ok w h k hx (by omega) (by omega)).mono ?_
      rintro r w' ⟨rfl, ⟨v', hd⟩, hg⟩
      refine ⟨_, _, ?_, hd, ?_, fun k hk => hk, hg⟩ <;> simp only [cuA, getA_map, hx, Option.map_some, if_pos hyes, put_abs] <;> rfl
  | none =>
    refine (rcut_none w h k hx).mono ?_
    rintro r w' ⟨rfl, rfl⟩
    refine ⟨_, _, ?_, h, ?_, fun k hk => .inl hk, (grown_refl _).but _⟩ <;> simp only [cuA, getA_map, hx, Option.map_none]
theorem r_remove (h : Rsk w rb N l root) (n : Int) :
    Calls Try.prog 16 #[.pointer (some ⟨rb, 0, none⟩), .int .i64 n] w (RAct w rb N root (reA n (l.map Sg.abs))) := by
  cases hx : getS n l with
  | some x =>
    refine (rremove_some w h hx).mono ?_
    rintro r w' ⟨rfl, hd, hg⟩
    refine ⟨_, _, ?_, hd, ?_, fun k hk => hk, hg⟩ <;> simp only [reA, getA_map, hx, Option.map_some, del_abs]
  | none =>
    refine (rremove_none w h hx).mono ?_
    rintro r w' ⟨rfl, rfl⟩
    refine ⟨_, _, ?_, h, ?_, fun k hk => .inl hk, (grown_refl _).but _⟩ <;> simp only [reA, getA_map, hx, Option.map_none]
theorem r_swap (h : Rsk w rb N l root) (v : Value) (zs : List Int) (hz : Bts w.heap.size w v zs) :
    Calls Try.prog 20 #[.pointer (some ⟨rb, 0, none⟩), v] w fun r w' => ∃ N', r = .returned (.int .i64 (swA zs root).1) ∧ Rsk w' rb N' l (swA zs root).2 ∧ (∀ k, N' k → Or_ N w k) ∧ w.grownBy w' (some rb) := by
  by_cases hl : zs.length ≤ 1024
  · refine (rswap_ok w h v zs hz hl).mono ?_
    rintro r w' ⟨rfl, hd, hg⟩
    rw [swA, if_pos hl]
    exact ⟨_, rfl, hd, fun k hk => hk, hg⟩
  · obtain ⟨a, cap, rfl⟩ := hz.shape
    refine (rswap_long w rb a zs.length cap (by simp; omega)).mono ?_
    rintro r w' ⟨rfl, rfl⟩
    rw [swA, if_neg hl]
    exact ⟨_, rfl, h, fun k hk => .inl hk, (grown_refl _).but _⟩
/-- What power leaves hangs on the numbers, bytes and safe bytes alone. -/
theorem pow_abs {ks : List Int} {l m : List Sg} (h : l.map Sg.abs = m.map Sg.abs) : powS ks l = powS ks m := by
  have hl := abs_len h
  unfold powS powN
  rw [hl]
  congr 1
  funext i
  have e : (l[i]?).map Sg.abs = (m[i]?).map Sg.abs := by rw [← List.getElem?_map, ← List.getElem?_map, h]
  cases h1 : l[i]? with
  | none =>
    rw [h1] at e
    cases h2 : m[i]? with
    | none => rfl
    | some y => rw [h2] at e; cases e
  | some x =>
    rw [h1] at e
    cases h2 : m[i]? with
    | none => rw [h2] at e; cases e
    | some y =>
      rw [h2] at e
      simp only [Option.map_some, Option.some.injEq, Sg.abs, Prod.mk.injEq] at e
      obtain ⟨e1, e2, e3⟩ := e
      have ep : ∀ k, pn k x = pn k y := fun k => by cases k <;> simp [pn, e2, e3]
      simp only [pwItem, ep, e1, e2]
/-- The two disks, apart from one another. -/
structure St (W w : World) (sb bm rb : Nat) (N M : Nat → Prop) (l rl : List Sg) (root : List Int) : Prop where
  d : Dsk w sb bm N l root
  r : Rsk w rb M rl root
  e : l.map Sg.abs = rl.map Sg.abs
  n1 : sb ≠ rb
  n2 : bm ≠ rb
  n3 : ¬ N rb
  n4 : ¬ M sb
  n5 : ¬ M bm
  b1 : W.heap.size ≤ sb
  b2 : W.heap.size ≤ bm
  b3 : W.heap.size ≤ rb
/-- Block og is none of theirs. -/
def Off (og sb bm rb : Nat) (N M : Nat → Prop) : Prop := og ≠ sb ∧ og ≠ bm ∧ og ≠ rb ∧ ¬ N og ∧ ¬ M og
theorem St.grown0 {W w w' : World} {sb bm rb : Nat} {N M : Nat → Prop} {l rl : List Sg} {root : List Int} (h : St W w sb bm rb N M l rl root) (hg : w.grownBy w' none) : St W w' sb bm rb N M l rl root :=
  ⟨h.d.grown0 hg, h.r.grown0 hg, h.e, h.n1, h.n2, h.n3, h.n4, h.n5, h.b1, h.b2, h.b3⟩
theorem St.off {W w w' : World} {og sb bm rb : Nat} {N M : Nat → Prop} {l rl : List Sg} {root : List Int} (h : St W w sb bm rb N M l rl root) (hg : w.grownBy w' (some og)) (ho : Off og sb bm rb N M) : St W w' sb bm rb N M l rl root := by
  obtain ⟨o1, o2, o3, o4, o5⟩ := ho
  exact ⟨h.d.grown hg (fun e => o1 (by cases e; rfl)) (fun e => o2 (by cases e; rfl)) (fun k hk => by cases hk; exact o4), h.r.grown hg (fun e => o3 (by cases e; rfl)) (fun k hk => by cases hk; exact o5), h.e, h.n1, h.n2, h.n3, h.n4, h.n5, h.b1, h.b2, h.b3⟩
theorem or_not {N : Nat → Prop} {w : World} {k : Nat} (h : ¬ N k) (hk : k < w.heap.size) : ¬ Or_ N w k := fun e => e.elim h fun e => by omega
end Go.Proofs.Ytmhpbemfejkdaaa
