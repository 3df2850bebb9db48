/- What diskTakes, putInLast, putInNext do. -/
import Derived.Test.YtgblekdllcngnaaLga
namespace Go.Proofs.Ytgblekdllcngnaa
open Go.RowKit Go.IntWalk Go.Maps
set_option linter.unusedVariables false

section
variable {M : Nat → Prop} {lb sb bm : Nat} {sv : Value} {l : List Sg} {root : List Int} {seg : Int} {st : List Int} {size next forced : Int}
set_option maxRecDepth 100000 in
set_option maxHeartbeats 1000000 in
theorem takes_none (w : World) (h : Lgd M w lb sb bm sv l root seg st size next forced) (n k : Int) (h0 : -9223372036854775808 ≤ n) (h1 : n < 9223372036854775808) (hx : getS n l = none) (hl : l.length < 128) :
    Calls Try.prog 53 #[.pointer (some ⟨lb, 0, none⟩), .int .i64 n, .int .i64 k] w fun r w' => r = .returned (.bool true) ∧ w.grownBy w' none := by
  have c0 := h.c0
  have hd : decide ((l.length : Int) < 128) = true := by simp; omega
  go_enter Try.func53, Try.ntmps53
  go_wp2_with fail
  refine (read_none w h.dsk h0 h1 hx).mono ?_
  rintro r w1 ⟨v1, rfl, hb1, hg1⟩
  obtain ⟨a1, cap1, rfl⟩ := hb1.1.shape
  have h2 := h.keep hg1
  have c02 := h2.c0
  go_wp2_with fail
  refine (segments_any w1 h2.dsk).mono ?_
  rintro r w2 ⟨g, cap, rfl, hrow, hg2⟩
  go_wp2
  go_ret
  exact ⟨rfl, grown_none hg1 hg2⟩
set_option maxRecDepth 100000 in
set_option maxHeartbeats 1000000 in
/-- putInLast, where it fits. -/
theorem putLast_any (w : World) (h : Lgd M w lb sb bm sv l root seg st size next forced) (h0 : 0 ≤ seg) (h1 : seg ≤ 1000000000000000) (hl0 : 0 < st.length) (hl : st.length ≤ 100000) {x : Sg} (hx : getS (seg + st.length - 1) l = some x)
    (a : Option Addr) (len cap : Nat) (f : List Int) (hf : Bts w.heap.size w (.slice a len cap) f) (hfit : x.b.length + f.length ≤ 1024) (hs0 : 0 ≤ size) (hs1 : size ≤ 1024) :
    Calls Try.prog 29 #[.pointer (some ⟨lb, 0, none⟩), .slice a len cap] w fun r w' => r = .returned (.int .i64 0) ∧ (∃ v', Lgd M w' lb sb bm sv (putS ⟨seg + st.length - 1, v', x.b ++ f, x.s⟩ l) root seg st (size + len) next forced) ∧ Kpt M w w' := by
  have c0 := h.c0
  have hk0 := h.keep (grown_drew w)
  have hlen := hf.len
  have hlb : len ≤ 1024 := by omega
  have ho : orS (seg + st.length - 1) l = x := by simp [orS, hx]
  have hfi : fits (seg + st.length - 1) f.length l = true := by
    unfold fits; rw [ho, hx]; simp; omega
  clear hlen
  go_enter Try.func29, Try.ntmps29
  go_wp2_with fail
  go_region_held3 (fun w' => w'.cell? ⟨lb, 0, none⟩ = some (.pointer (some ⟨sb, 0, none⟩)))
    (first
      | go_keep
      | exact (hk0.keep hg1).c0
      | exact hL2.c0)
    (first
      | (go_at_call 32
         refine (last_any _ hk0 (by omega) h1 hl).mono ?_
         rintro r w1 ⟨k, rfl, hk, hg1⟩)
      | (go_at_call 52
         rw [hk.out]
         refine (append_any w1 (hk0.keep hg1).dsk _ (by omega) (by omega) _ f (hf.grown0 (grown_none (grown_drew w) hg1))).mono ?_
         rintro r w2 (⟨_, rfl, ⟨v', hD2⟩, hg2⟩ | ⟨hno, _⟩)
         rotate_left
         · rw [hfi] at hno; cases hno
         rw [ho] at hD2
         have hL2 := (hk0.keep hg1).disk hg2 hD2
         have hK2 := ((h.kpt0 (grown_drew w)).trans (hk0.kpt0 hg1)).trans ((hk0.keep hg1).kptm hg2)))
  all_goals
    have c3 := hL2.c3
    have f3 := hL2.fz 3
    have hc := hL2.cell 3 (.int .i64 (size + len)) (seg' := seg) (size' := size + len) (next' := next) (forced' := forced) rfl
    go_wp2
    go_ret
    exact ⟨rfl, ⟨v', hc.1⟩, hK2.trans hc.2⟩
end
end Go.Proofs.Ytgblekdllcngnaa
