/- What a change of a disk leaves, whatever its error: another disk, the same but for one segment or the root. -/
import Derived.Test.YtmhpbemfejkdaaaRds
namespace Go.Proofs.Ytmhpbemfejkdaaa
open Go.RowKit Go.IntWalk Go.Maps Go.Sort
set_option linter.unusedVariables false

theorem append_chg (w : World) {sb bm : Nat} {N : Nat → Prop} {l : List Sg} {root : List Int} (h : Dsk w sb bm N l root) (n : Int) (h0 : -9223372036854775808 ≤ n) (h1 : n < 9223372036854775808) (v : Value) (zs : List Int) (hz : Bts w.heap.size w v zs) :
    Calls Try.prog 9 #[.pointer (some ⟨sb, 0, none⟩), .int .i64 n, v] w fun r w' => ∃ e N' l', r = .returned (.int .i64 e) ∧ Dsk w' sb bm N' l' root ∧ (∀ m, m ≠ n → getS m l' = getS m l) ∧ w.grownBy w' (some bm) := by
  refine (append_any w h n h0 h1 v zs hz).mono ?_
  rintro r w' (⟨_, rfl, ⟨v', hd⟩, hg⟩ | ⟨_, rfl, hg⟩)
  · exact ⟨_, _, _, rfl, hd, fun m hm => getS_put_other h.up _ hm, hg⟩
  · exact ⟨_, _, _, rfl, h.grown0 hg, fun m hm => rfl, hg.but _⟩
theorem sync_chg (w : World) {sb bm : Nat} {N : Nat → Prop} {l : List Sg} {root : List Int} (h : Dsk w sb bm N l root) (n : Int) (h0 : -9223372036854775808 ≤ n) (h1 : n < 9223372036854775808) :
    Calls Try.prog 11 #[.pointer (some ⟨sb, 0, none⟩), .int .i64 n] w fun r w' => ∃ e N' l', r = .returned (.int .i64 e) ∧ Dsk w' sb bm N' l' root ∧ (∀ m, m ≠ n → getS m l' = getS m l) ∧ w.grownBy w' (some bm) := by
  cases hx : getS n l with
  | some x =>
    refine (sync_some w h hx).mono ?_
    rintro r w' ⟨rfl, hd, hg⟩
    exact ⟨_, _, _, rfl, hd, fun m hm => getS_put_other h.up _ hm, hg⟩
  | none =>
    refine (sync_core w _ n 31 (by decide) (find_none w h h0 h1 hx)).mono ?_
    rintro r w' ⟨rfl, hg⟩
    exact ⟨_, _, _, rfl, h.grown0 hg, fun m hm => rfl, hg.but _⟩
theorem cut_chg (w : World) {sb bm : Nat} {N : Nat → Prop} {l : List Sg} {root : List Int} (h : Dsk w sb bm N l root) (n k : Int) (h0 : -9223372036854775808 ≤ n) (h1 : n < 9223372036854775808) :
    Calls Try.prog 13 #[.pointer (some ⟨sb, 0, none⟩), .int .i64 n, .int .i64 k] w fun r w' => ∃ e N' l', r = .returned (.int .i64 e) ∧ Dsk w' sb bm N' l' root ∧ (∀ m, m ≠ n → getS m l' = getS m l) ∧ w.grownBy w' (some bm) := by
  cases hx : getS n l with
  | some x =>
    by_cases hk : k < 0 ∨ x.b.length < k
    · refine (cut_bad w h hx k hk).mono ?_
      rintro r w' ⟨rfl, hg⟩
      exact ⟨_, _, _, rfl, h.grown0 hg, fun m hm => rfl, hg.but _⟩
    · refine (cut_ok w h hx k (by omega) (by omega)).mono ?_
      rintro r w' ⟨rfl, ⟨v', hd⟩, hg⟩
      exact ⟨_, _, _, rfl, hd, fun m hm => getS_put_other h.up _ hm, hg⟩
  | none =>
    refine (cut_core w _ n k 31 (by decide) (find_none w h h0 h1 hx)).mono ?_
    rintro r w' ⟨rfl, hg⟩
    exact ⟨_, _, _, rfl, h.grown0 hg, fun m hm => rfl, hg.but _⟩
theorem remove_chg (w : World) {sb bm : Nat} {N : Nat → Prop} {l : List Sg} {root : List Int} (h : Dsk w sb bm N l root) (n : Int) (h0 : -9223372036854775808 ≤ n) (h1 : n < 9223372036854775808) :
    Calls Try.prog 15 #[.pointer (some ⟨sb, 0, none⟩), .int .i64 n] w fun r w' => ∃ e N' l', r = .returned (.int .i64 e) ∧ Dsk w' sb bm N' l' root ∧ (∀ m, m ≠ n → getS m l' = getS m l) ∧ w.grownBy w' (some bm) := by
  cases hx : getS n l with
  | some x =>
    refine (remove_some w h hx).mono ?_
    rintro r w' ⟨rfl, hd, hg⟩
    exact ⟨_, _, _, rfl, hd, fun m hm => getS_del_other h.up hm, hg⟩
  | none =>
    refine (remove_core w _ n 31 (by decide) (find_none w h h0 h1 hx)).mono ?_
    rintro r w' ⟨rfl, hg⟩
    exact ⟨_, _, _, rfl, h.grown0 hg, fun m hm => rfl, hg.but _⟩
theorem swap_chg (w : World) {sb bm : Nat} {N : Nat → Prop} {l : List Sg} {root : List Int} (h : Dsk w sb bm N l root) (v : Value) (zs : List Int) (hz : Bts w.heap.size w v zs) :
    Calls Try.prog 19 #[.pointer (some ⟨sb, 0, none⟩), v] w fun r w' => ∃ e N' root', r = .returned (.int .i64 e) ∧ Dsk w' sb bm N' l root' ∧ w.grownBy w' (some sb) := by
  by_cases hl : zs.length ≤ 1024
  · refine (swap_ok w h v zs hz hl).mono ?_
    rintro r w' ⟨rfl, hd, hg⟩
    exact ⟨_, _, _, rfl, hd, hg⟩
  · obtain ⟨a, cap, rfl⟩ := hz.shape
    refine (swap_long w sb a zs.length cap (by simp; omega)).mono ?_
    rintro r w' ⟨rfl, rfl⟩
    exact ⟨_, _, _, rfl, h, (grown_refl _).but _⟩
end Go.Proofs.Ytmhpbemfejkdaaa
