/- The calls of wheel beside the document's wheel. -/
import Derived.Test.YtlljfgpmjpmoiaaStd
namespace Go.Proofs.Ytlljfgpmjpmoiaa
open Go.RowKit Go.IntWalk Go.Maps Go.Shelf
set_option linter.unusedVariables false
theorem in_all {r x : Res} {rl l : List Res} (h : r ∈ l) : r ∈ x :: rl ++ l := by simp [h]
section
variable {W w : World} {mb wb : Nat} {nw mw' : Int} {L M T : List E} {l : List Res}
theorem Dw.sub (h : Dw W w mb nw L l) {l' : List Res} (hs : l'.Sublist l) : Dw W w mb nw L l' := by
  obtain ⟨v, rl, h1, h2⟩ := h
  exact ⟨v, rl, h1, h2.sub (List.Sublist.cons_cons _ ((List.Sublist.refl rl).append hs))⟩
theorem Dw.box (h : Dw W w mb nw L l) (o : Obj) : Dw W (w.alloc o) mb nw L (.b w.heap.size o :: l) := by
  obtain ⟨k, h1, h2⟩ := h.rest
  exact h2 _ _ (h1.box o)
theorem Dw.swap {a b : Res} (h : Dw W w mb nw L (a :: b :: l)) : Dw W w mb nw L (b :: a :: l) := by
  obtain ⟨k, h1, h2⟩ := h.rest
  exact h2 _ (b :: a :: l) (St.swap (l := l ++ k) h1)
theorem Dw.mb4 (h : Dw W w mb nw L l) {k : Nat} {a b c d : Value} {t : TypeId} (hx : Res.b k (.cells #[a, b, c, d] t (0, 0)) ∈ l) : w.cell? ⟨k, 0, none⟩ = some a ∧ w.cell? ⟨k, 1, none⟩ = some b ∧ w.cell? ⟨k, 2, none⟩ = some c ∧ w.cell? ⟨k, 3, none⟩ = some d := by
  obtain ⟨v, rl, h1, h2⟩ := h
  exact own_4 (h2.mb (in_all hx))
theorem Dw.mr (h : Dw W w mb nw L l) {t : TypeId} {v : Value} {es : List E} (hx : Res.r t v es ∈ l) : Rw t w v es := by
  obtain ⟨_, rl, h1, h2⟩ := h
  exact h2.mr (in_all hx)
theorem Dw.mq' (h : Dw W w mb nw L l) (hx : Res.q wb mw' M ∈ l) : Srt M ∧ M.length ≤ 100000 ∧ (∀ e ∈ M, mw' < e.at_) ∧ (∀ e ∈ M, e.ok) ∧ 0 ≤ mw' ∧ mw' < 18446744073709551616 := by
  obtain ⟨v, rl, h1, h2⟩ := h
  exact h2.mq (wb := wb) (in_all hx)
theorem tick_d (h : Dw W w mb nw L l) (hx : Res.q wb mw' M ∈ l) (x : Ac) (hxo : x.ok) {t : Int} (ht : Hid (x.tk mw' M = t)) :
    Calls Try.prog 10 #[.agg #[.int .i64 x.kd, .string x.nm, .int .u64 x.at_, .int .u64 x.by_], .pointer (some ⟨wb, 0, none⟩)] w fun r w' => r = .returned (.int .u64 t) ∧ Dw W w' mb nw L l := by
  obtain ⟨v, rl, h1, h2⟩ := id h
  refine (tick_m h2 (in_all hx) x hxo ht).mono ?_
  rintro r w' ⟨rfl, hg⟩
  exact ⟨rfl, h.grown hg⟩
theorem soon_d (h : Dw W w mb nw L l) (hx : Res.q wb mw' M ∈ l) {s : Int} {b : Bool} (hs : Hid (soonT M = s)) (hb : Hid (soonB M = b)) : Calls Try.prog 18 #[.pointer (some ⟨wb, 0, none⟩)] w fun r w' => r = .returned (.tuple #[.int .u64 s, .bool b]) ∧ Dw W w' mb nw L l := by
  obtain ⟨v, rl, h1, h2⟩ := id h
  refine (soon_m h2 (in_all hx) hs hb).mono ?_
  rintro r w' ⟨rfl, hg⟩
  exact ⟨rfl, h.grown hg⟩
theorem stands_e (h : Dw W w mb nw L l) (hx : Res.q wb nw L ∈ l) : Calls Try.prog 19 #[.pointer (some ⟨wb, 0, none⟩), .pointer (some ⟨mb, 0, none⟩)] w fun r w' => r = .returned (.bool true) ∧ Dw W w' mb nw L l := by
  refine (stands_d h hx).mono ?_
  rintro r w' ⟨rfl, hg⟩
  exact ⟨rfl, h.grown hg⟩
theorem put_d {b : Bool} (h : Dw W w mb nw L (.q wb mw' M :: l)) (n : ByteArray) (a : Int) (hn : n.size ≤ maxLen) (ha : 0 ≤ a ∧ a < 18446744073709551616) (hl : M.length < 100000) (hb : Hid (decide (mw' < a) = b)) (hT : Hid (putA mw' ⟨n, a⟩ M = T)) :
    Calls Try.prog 11 #[.pointer (some ⟨wb, 0, none⟩), .string n, .int .u64 a] w fun r w' => r = .returned (.bool b) ∧ Dw W w' mb nw L (.q wb mw' T :: l) := by
  obtain ⟨k, h1, h2⟩ := h.rest
  refine (put_e (l := l ++ k) h1 n a hn ha hl hb hT).mono ?_
  rintro r w' ⟨rfl, h3⟩
  exact ⟨rfl, h2 _ (_ :: l) h3⟩
theorem drop_d {b : Bool} (h : Dw W w mb nw L (.q wb mw' M :: l)) (n : ByteArray) (hn : n.size ≤ maxLen) (hb : Hid (hasN n M = b)) (hT : Hid (delN n M = T)) :
    Calls Try.prog 13 #[.pointer (some ⟨wb, 0, none⟩), .string n] w fun r w' => r = .returned (.bool b) ∧ Dw W w' mb nw L (.q wb mw' T :: l) := by
  obtain ⟨k, h1, h2⟩ := h.rest
  refine (drop_e (l := l ++ k) h1 n hn hb hT).mono ?_
  rintro r w' ⟨rfl, h3⟩
  exact ⟨rfl, h2 _ (_ :: l) h3⟩
theorem adv_d {A : List E} {nn : Int} (h : Dw W w mb nw L (.q wb mw' M :: l)) (t : Int) (ht : 0 ≤ t ∧ t < 18446744073709551616) (hA : Hid (due t M = A)) (hT : Hid (rst t M = T)) (hn : Hid ((if mw' < t then t else mw') = nn)) :
    Calls Try.prog 16 #[.pointer (some ⟨wb, 0, none⟩), .int .u64 t] w fun r w' => ∃ a cap, r = .returned (.slice a A.length cap) ∧ Dw W w' mb nw L (.q wb nn T :: .r 52 (.slice a A.length cap) A :: l) := by
  obtain ⟨k, h1, h2⟩ := h.rest
  refine (adv_e (l := l ++ k) h1 t ht hA hT hn).mono ?_
  rintro r w' ⟨a, cap, rfl, h3⟩
  exact ⟨a, cap, rfl, h2 _ (_ :: _ :: l) h3⟩
theorem same_d {a a2 : Option Addr} {cap cap2 : Nat} {A : List E} (h : Dw W w mb nw L l) (hx : Res.r 52 (.slice a A.length cap) A ∈ l) (h2 : Lc w (.slice a2 A.length cap2) A) (hl : A.length ≤ 100000) :
    Calls Try.prog 15 #[.slice a A.length cap, .slice a2 A.length cap2] w fun r w' => r = .returned (.bool true) ∧ Dw W w' mb nw L l := by
  refine (same_any (h.mr hx) h2 hl).mono ?_
  rintro r w' ⟨rfl, hg⟩
  exact ⟨rfl, h.grown hg⟩
theorem alive_d (h : Dw W w mb nw L l) : Calls Try.prog 23 #[] w fun r w' => r = .returned (.bool true) ∧ Below W.heap.size W w' := by
  obtain ⟨v, rl, h1, h2⟩ := h
  refine (alive_s h2).mono ?_
  rintro r w' ⟨rfl, h3⟩
  exact ⟨rfl, h3.2⟩
theorem lat_clock_d (h : Dw W w mb nw L l) (hx : Res.q wb mw' M ∈ l) (p : Lat w) : Calls Try.prog 20 #[.pointer (some ⟨wb, 0, none⟩)] p.W fun e w'' => e = .returned (.int .u64 mw') ∧ ∃ p' : Lat w, w'' = p'.W := by
  obtain ⟨v, rl, h1, h2⟩ := h
  exact lat_clock h2 (in_all hx) p
theorem lat_len_d (h : Dw W w mb nw L l) (hx : Res.q wb mw' M ∈ l) (p : Lat w) : Calls Try.prog 21 #[.pointer (some ⟨wb, 0, none⟩)] p.W fun e w'' => e = .returned (.int .i64 M.length) ∧ ∃ p' : Lat w, w'' = p'.W := by
  obtain ⟨v, rl, h1, h2⟩ := h
  refine (len_m (h2.grown p.h) (in_all hx)).mono ?_
  rintro r w' ⟨rfl, rfl⟩
  exact ⟨rfl, p, rfl⟩
end
end Go.Proofs.Ytlljfgpmjpmoiaa
