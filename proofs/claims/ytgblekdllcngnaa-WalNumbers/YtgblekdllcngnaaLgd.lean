/- What Append does. -/
import Derived.Test.YtgblekdllcngnaaLga
import Derived.Test.YtgblekdllcngnaaMea
namespace Go.Proofs.Ytgblekdllcngnaa
open Go.RowKit Go.IntWalk Go.Maps
set_option linter.unusedVariables false

section
variable {M : Nat → Prop} {lb sb bm : Nat} {sv : Value} {l : List Sg} {root : List Int} {seg : Int} {st : List Int} {size next forced : Int}
/-- What Force does to a log. -/
def FOk (lb sb bm : Nat) (sv : Value) (l : List Sg) (root : List Int) (seg : Int) (st : List Int) (size next forced : Int) (l2 : List Sg) : Prop :=
  ∀ (M : Nat → Prop) w, Lgd M w lb sb bm sv l root seg st size next forced → Calls Try.prog 12 #[.pointer (some ⟨lb, 0, none⟩)] w fun r w' => r = .returned (.int .i64 0) ∧ Lgd M w' lb sb bm sv l2 root seg st size next next ∧ Kpt M w w'
theorem fok_none : FOk lb sb bm sv l root seg [] size next forced l := fun M w h => force_none w h
theorem fok_some (h0 : -1000000000000000 ≤ seg) (h1 : seg ≤ 1000000000000000) (hl0 : 0 < st.length) (hl : st.length ≤ 100000) {x : Sg} (hx : getS (seg + st.length - 1) l = some x) : FOk lb sb bm sv l root seg st size next forced (syncS (seg + st.length - 1) x l) :=
  fun M w h => force_some w h h0 h1 hl0 hl hx
set_option maxRecDepth 100000 in
set_option maxHeartbeats 1000000 in
theorem lappend_nil (v : Value) (w : World) : Calls Try.prog 10 #[.pointer none, v] w fun r w' => r = .returned (.tuple #[.int .i64 0, .int .i64 1]) ∧ w' = w := by
  go_enter Try.func10, Try.ntmps10
  go_wp2
  go_ret2
  exact ⟨rfl, rfl⟩
set_option maxRecDepth 100000 in
set_option maxHeartbeats 1000000 in
theorem lappend_bad (lb : Nat) (a : Option Addr) (len cap : Nat) (hb : len = 0 ∨ (1000 : Int) < len) (w : World) : Calls Try.prog 10 #[.pointer (some ⟨lb, 0, none⟩), .slice a len cap] w fun r w' => r = .returned (.tuple #[.int .i64 0, .int .i64 1]) ∧ w' = w := by
  rcases hb with rfl | hb
  · go_enter Try.func10, Try.ntmps10
    go_wp2
    go_ret2
    exact ⟨rfl, rfl⟩
  · have hd : decide ((len : Int) > 1000) = true := by simpa using hb
    have hne : ((len : Int) == 0) = false := by simp; omega
    go_enter Try.func10, Try.ntmps10
    go_wp2
    go_ret2
    exact ⟨rfl, rfl⟩
set_option maxRecDepth 100000 in
set_option maxHeartbeats 2000000 in
/-- Append, into the next segment. -/
theorem lappend_next (w : World) (h : Lgd M w lb sb bm sv l root seg st size next forced) (h0 : 0 ≤ seg) (h1 : seg ≤ 1000000000000000) (hl : st.length < 100) (l2 : List Sg) (hx : getS (seg + st.length) l = none) (hll : l.length < 128)
    (hF : FOk lb sb bm sv l root seg st size next forced l2) (hx2 : getS (seg + st.length) l2 = none) (hl2 : l2.length < 128)
    (a : Option Addr) (len cap : Nat) (r : List Int) (hf : Bts w.heap.size w (.slice a len cap) r) (hr : okR r) (hs0 : 0 ≤ size) (hs1 : size ≤ 1024) (hn0 : 0 ≤ next) (hn1 : next ≤ 1000000000000000)
    (hbig : st.length = 0 ∨ (1024 : Int) - size < 6 + len) :
    Calls Try.prog 10 #[.pointer (some ⟨lb, 0, none⟩), .slice a len cap] w fun e w' => e = .returned (.tuple #[.int .i64 next, .int .i64 0]) ∧ (∃ sv' v', Lgd M w' lb sb bm sv' (putS ⟨seg + st.length, v', frm r, 0⟩ l2) root seg (st ++ [next]) (6 + len) (next + 1) next) ∧ Kpt M w w' := by
  have hlen := hf.len
  have hlb : 1 ≤ len ∧ len ≤ 1000 := by have := hr.1; have := hr.2.1; omega
  have hne : ((len : Int) == 0) = false := by simp; omega
  have hd : decide ((len : Int) > 1000) = false := by simp; omega
  clear hlen
  go_enter Try.func10, Try.ntmps10
  go_wp2_with fail
  refine (newFrame_any a len cap r w hf hr).mono ?_
  rintro e w1 ⟨k, rfl, hk, hown, hB1⟩
  have hg1 := below_grown hB1
  have h2 := h.more hg1
  have hK1 := h.kpt0 hg1
  have hbf := Bts.of_own hown (frm_byte hr)
  have c2 := h2.c2
  have c3 := h2.c3
  obtain ⟨sa, scap, rfl, _⟩ := own_shape h.row
  have hlen2 := hown.lt w.heap.size rfl
  have hkk : k ≤ 1006 := by have := hk.out; omega
  have hput : ∀ W, Lgd (And_ M w w1) W lb sb bm _ l root seg st size next forced → Bts W.heap.size W (.slice (some ⟨w.heap.size, 0, none⟩) k k) (frm r) → Calls Try.prog 30 #[.pointer (some ⟨lb, 0, none⟩), .slice (some ⟨w.heap.size, 0, none⟩) k k] W fun r' w' => r' = .returned (.int .i64 0) ∧ (∃ sv' v', Lgd (And_ M w w1) w' lb sb bm sv' (putS ⟨seg + st.length, v', frm r, 0⟩ l2) root seg (st ++ [next]) k next next) ∧ Kpt (And_ M w w1) W w' := fun W hW hb =>
    putNext_any W hW h0 h1 hl l2 hx hll (fun w => hF _ w) hx2 hl2 _ k k (frm r) hb (by rw [frm_length]; have := hr.2.1; omega) (fun b off e => by simp only [Option.some.injEq, Addr.mk.injEq] at e; rw [← e.1]; exact .inr ⟨Nat.le_refl _, hlen2.2⟩)
  have HK : Hid (k = 6 + len) := hk
  by_cases he : st.length = 0
  · have he' : ((st.length : Int) == 0) = true := beq_iff_eq.2 (by omega)
    clear hbig
    go_wp2_with fail
    refine (hput w1 h2 hbf).mono ?_
    rintro e w3 ⟨rfl, ⟨sv', v', h3⟩, hK3⟩
    have c4 := h3.c4
    have f4 := h3.fz 4
    have hc := (h3.less (M' := M) fun k hk => .inl hk).cell 4 (.int .i64 (next + 1)) (seg' := seg) (size' := k) (next' := next + 1) (forced' := next) rfl
    go_wp2
    go_ret2
    refine ⟨rfl, ⟨sv', v', ?_⟩, (hK1.trans (hK3.mono fun k hk => .inl hk)).trans hc.2⟩
    rw [show (6 + (len : Int)) = (k : Int) by rw [HK.out]; omega]
    exact hc.1
  · have he' : ((st.length : Int) == 0) = false := beq_eq_false_iff_ne.2 (by omega)
    have hb' : decide ((k : Int) > 1024 - size) = true := by have := HK.out; simp; omega
    clear hbig
    go_wp2_with fail
    refine (hput w1 h2 hbf).mono ?_
    rintro e w3 ⟨rfl, ⟨sv', v', h3⟩, hK3⟩
    have c4 := h3.c4
    have f4 := h3.fz 4
    have hc := (h3.less (M' := M) fun k hk => .inl hk).cell 4 (.int .i64 (next + 1)) (seg' := seg) (size' := k) (next' := next + 1) (forced' := next) rfl
    go_wp2
    go_ret2
    refine ⟨rfl, ⟨sv', v', ?_⟩, (hK1.trans (hK3.mono fun k hk => .inl hk)).trans hc.2⟩
    rw [show (6 + (len : Int)) = (k : Int) by rw [HK.out]; omega]
    exact hc.1
set_option maxRecDepth 100000 in
set_option maxHeartbeats 2000000 in
/-- Append, where the log is full. -/
theorem lappend_full (w : World) (h : Lgd M w lb sb bm sv l root seg st size next forced) (hl : 100 ≤ st.length) (hl' : st.length ≤ 100000)
    (a : Option Addr) (len cap : Nat) (r : List Int) (hf : Bts w.heap.size w (.slice a len cap) r) (hr : okR r) (hs0 : 0 ≤ size) (hs1 : size ≤ 1024) (hbig : (1024 : Int) - size < 6 + len) :
    Calls Try.prog 10 #[.pointer (some ⟨lb, 0, none⟩), .slice a len cap] w fun e w' => e = .returned (.tuple #[.int .i64 0, .int .i64 41]) ∧ Lgd M w' lb sb bm sv l root seg st size next forced ∧ Kpt M w w' := by
  have hlen := hf.len
  have hlb : 1 ≤ len ∧ len ≤ 1000 := by have := hr.1; have := hr.2.1; omega
  have hne : ((len : Int) == 0) = false := by simp; omega
  have hd : decide ((len : Int) > 1000) = false := by simp; omega
  clear hlen
  go_enter Try.func10, Try.ntmps10
  go_wp2_with fail
  refine (newFrame_any a len cap r w hf hr).mono ?_
  rintro e w1 ⟨k, rfl, hk, hown, hB1⟩
  have hg1 := below_grown hB1
  have h2 := h.keep hg1
  have hK1 := h.kpt0 hg1
  have c2 := h2.c2
  have c3 := h2.c3
  obtain ⟨sa, scap, rfl, _⟩ := own_shape h.row
  have he' : ((st.length : Int) == 0) = false := beq_eq_false_iff_ne.2 (by omega)
  have hb' : decide ((k : Int) > 1024 - size) = true := by have := hk.out; simp; omega
  have hkk : k ≤ 1006 := by have := hk.out; omega
  clear hbig
  go_wp2_with fail
  refine (putNext_full w1 h2 hl _).mono ?_
  rintro e w3 ⟨rfl, rfl⟩
  go_wp2
  go_ret2
  exact ⟨rfl, h2, hK1⟩
set_option maxRecDepth 100000 in
set_option maxHeartbeats 2000000 in
/-- Append, into the last segment. -/
theorem lappend_last (w : World) (h : Lgd M w lb sb bm sv l root seg st size next forced) (h0 : 0 ≤ seg) (h1 : seg ≤ 1000000000000000) (hl0 : 0 < st.length) (hl : st.length ≤ 100000) {x : Sg} (hx : getS (seg + st.length - 1) l = some x)
    (a : Option Addr) (len cap : Nat) (r : List Int) (hf : Bts w.heap.size w (.slice a len cap) r) (hr : okR r) (hs : Hid (size = x.b.length)) (hn0 : 0 ≤ next) (hn1 : next ≤ 1000000000000000) (hfit : size + 6 + len ≤ 1024) :
    Calls Try.prog 10 #[.pointer (some ⟨lb, 0, none⟩), .slice a len cap] w fun e w' => e = .returned (.tuple #[.int .i64 next, .int .i64 0]) ∧ (∃ v', Lgd M w' lb sb bm sv (putS ⟨seg + st.length - 1, v', x.b ++ frm r, x.s⟩ l) root seg st (size + (6 + len)) (next + 1) forced) ∧ Kpt M w w' := by
  have hlen := hf.len
  have hlb : 1 ≤ len ∧ len ≤ 1000 := by have := hr.1; have := hr.2.1; omega
  have hne : ((len : Int) == 0) = false := by simp; omega
  have hd : decide ((len : Int) > 1000) = false := by simp; omega
  have HL : Hid (len = r.length) := hlen
  have hsz0 : 0 ≤ size := by have := hs.out; omega
  have hsz1 : size ≤ 1024 := by omega
  clear hlen
  go_enter Try.func10, Try.ntmps10
  go_wp2_with fail
  refine (newFrame_any a len cap r w hf hr).mono ?_
  rintro e w1 ⟨k, rfl, hk, hown, hB1⟩
  have hg1 := below_grown hB1
  have h2 := h.keep hg1
  have hK1 := h.kpt0 hg1
  have hbf := Bts.of_own hown (frm_byte hr)
  have c2 := h2.c2
  have c3 := h2.c3
  obtain ⟨sa, scap, rfl, _⟩ := own_shape h.row
  have he' : ((st.length : Int) == 0) = false := beq_eq_false_iff_ne.2 (by omega)
  have hb' : decide ((k : Int) > 1024 - size) = false := by have := hk.out; simp; omega
  have hkk : k ≤ 1006 := by have := hk.out; omega
  have HK : Hid (k = 6 + len) := hk
  have HF : Hid (size + 6 + len ≤ 1024) := hfit
  clear hfit
  go_wp2_with fail
  refine (putLast_any w1 h2 h0 h1 hl0 hl hx _ k k (frm r) hbf (by rw [frm_length]; have := HL.out; have := hs.out; have := HF.out; omega) hsz0 hsz1).mono ?_
  rintro e w3 ⟨rfl, ⟨v', h3⟩, hK3⟩
  have c4 := h3.c4
  have f4 := h3.fz 4
  have hc := h3.cell 4 (.int .i64 (next + 1)) (seg' := seg) (size' := size + k) (next' := next + 1) (forced' := forced) rfl
  go_wp2
  go_ret2
  refine ⟨rfl, ⟨v', ?_⟩, (hK1.trans hK3).trans hc.2⟩
  rw [show (6 + (len : Int)) = (k : Int) by rw [HK.out]; omega]
  exact hc.1
end
end Go.Proofs.Ytgblekdllcngnaa
