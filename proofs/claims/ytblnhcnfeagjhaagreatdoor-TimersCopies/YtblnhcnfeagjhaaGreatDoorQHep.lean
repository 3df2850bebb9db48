/- container/heap's Push, Fix, Remove and Pop on a line. -/
import Derived.Test.YtblnhcnfeagjhaaGreatDoorQDown
namespace Go.Proofs.YtblnhcnfeagjhaaGreatDoor.Q
open Go.RowKit Go.IntWalk Go.Maps
set_option linter.unusedVariables false
theorem Hp.push {es : List E} (h : Hp es es.length) (e : E) : Hu (es ++ [e]) (es.length + 1) es.length := by
  refine ⟨fun k h0 hk hne a b ha hb => ?_, fun k h0 hk h1 hp => by omega⟩
  rw [List.getElem?_append_left (by omega)] at ha hb
  exact h k h0 (by omega) a b ha hb
theorem swp_hd {es : List E} {i n : Nat} {a b : E} (h : Hp es es.length) (hl : es.length = n + 1) (hi : i ≤ n) (ha : es[i]? = some a) (hb : es[n]? = some b) : Hd (swp es i n a b) n i i := by
  by_cases e : i = n
  · subst e
    rw [ha] at hb
    cases hb
    have hs : swp es i i a a = es := swp_self ha
    rw [hs]
    exact ⟨fun k h0 hk hne hki => h k h0 (by omega), fun k h0 hk h1 hp => by omega⟩
  · have h1 : Hp es n := fun k h0 hk => h k h0 (by omega)
    refine (h1.turn (i := i) (e := b) (by omega) (by omega)).congr (by omega) (fun k hk => ?_)
    rw [swp_at ha hb, if_neg (by omega), List.getElem?_set]
    by_cases e2 : k = i
    · subst e2; rw [if_pos rfl, if_pos rfl, if_pos (by omega)]
    · rw [if_neg e2, if_neg (Ne.symm e2)]
/-- The entries but for one. -/
def Wo (es es' : List E) (e : E) : Prop := ∀ x, x ∈ es' ↔ x ∈ es ∧ x.n ≠ e.n
theorem last_split {fs : List E} {n : Nat} {e : E} (hl : fs.length = n + 1) (he : fs[n]? = some e) : fs = fs.take n ++ [e] := by
  apply List.ext_getElem?
  intro k
  by_cases hk : k < n
  · rw [List.getElem?_append_left (by simp; omega), List.getElem?_take, if_pos hk]
  · rw [List.getElem?_append_right (by simp; omega)]
    by_cases e2 : k = n
    · subst e2; rw [he]; simp [hl]
    · rw [List.getElem?_eq_none (by omega), List.getElem?_eq_none (by simp; omega)]
theorem wo_init {w : World} {qb bm : Nat} {rv : Value} {es is : List E} {e : E} (h : Ln w qb bm rv (is ++ [e])) (hm : ∀ x, x ∈ is ++ [e] ↔ x ∈ es) : Wo es is e := by
  intro x
  constructor
  · intro hx
    refine ⟨(hm x).1 (by simp [hx]), fun e' => ?_⟩
    obtain ⟨k, hk⟩ := List.mem_iff_getElem?.1 hx
    have hkl := (List.getElem?_eq_some_iff.1 hk).1
    have := h.nodup (i := k) (j := is.length) (a := x) (b := e) (by rw [List.getElem?_append_left hkl]; exact hk) (by simp) e'
    omega
  · rintro ⟨hx, hne⟩
    have := (hm x).2 hx
    rcases List.mem_append.1 this with h1 | h1
    · exact h1
    · simp at h1; subst h1; exact absurd rfl hne
set_option maxRecDepth 100000 in
set_option maxHeartbeats 4000000 in
/-- heap.Push. -/
theorem hpush_any (w : World) {qb bm : Nat} {rv : Value} {es : List E} (h : Ln w qb bm rv es) (hh : Hp es es.length) (e : E) (hn : ∀ x ∈ es, x.n ≠ e.n) (he : e.n.size ≤ maxLen ∧ 0 ≤ e.at_ ∧ e.at_ < 18446744073709551616) (hl : es.length < 100000) :
    Calls Tryz.prog 94 #[.iface 139 (.pointer (some ⟨qb, 0, none⟩)), .iface 91 (.agg #[.string e.n, .int .u64 e.at_])] w fun r w' => r = .returned (.tuple #[]) ∧ ∃ rv' es', Ln w' qb bm rv' es' ∧ Tn w w' qb bm rv rv' ∧ Hp es' es'.length ∧ ∀ x, x ∈ es' ↔ x ∈ es ∨ x = e := by
  have m1 := m_push
  have m2 := m_len
  go_enter Tryz.func94, Tryz.ntmps94
  go_wp2_with fail
  refine (lpush_any w h e hn he hl).mono ?_
  rintro r w1 ⟨rfl, rv1, hL1, hT1⟩
  have hlen : (es ++ [e]).length = es.length + 1 := by simp
  go_wp2_with fail
  refine (llen_any w1 hL1).mono ?_
  rintro r w2 ⟨rfl, rfl⟩
  rw [hlen]
  go_wp2_with fail
  refine (up_any w2 hL1 es.length (es.length + 1) (by omega) (by omega) (hh.push e)).mono ?_
  rintro r w3 ⟨rfl, fs, hL3, hT3, hH3, hS3⟩
  go_wp2_with fail
  go_end0
  refine ⟨rfl, rv1, fs, hL3, hT1.trans hT3, by rw [hS3.len, hlen]; exact hH3, fun x => ?_⟩
  rw [hS3.mem]
  simp
set_option maxRecDepth 100000 in
set_option maxHeartbeats 4000000 in
/-- heap.Fix. -/
theorem fix_any (w : World) {qb bm : Nat} {rv : Value} {es : List E} (h : Ln w qb bm rv es) (i : Nat) (hi : i < es.length) (hd : Hd es es.length i i) :
    Calls Tryz.prog 95 #[.iface 139 (.pointer (some ⟨qb, 0, none⟩)), .int .i64 i] w fun r w' => r = .returned (.tuple #[]) ∧ ∃ es', Ln w' qb bm rv es' ∧ Tn w w' qb bm rv rv ∧ Hp es' es'.length ∧ ∀ x, x ∈ es' ↔ x ∈ es := by
  have m2 := m_len
  go_enter Tryz.func95, Tryz.ntmps95
  go_wp2_with fail
  refine (llen_any w h).mono ?_
  rintro r w2 ⟨rfl, rfl⟩
  go_wp2_with fail
  refine (down_any w2 h i es.length (by omega) (by omega) hd).mono ?_
  rintro r w3 ⟨b, rfl, fs, hL3, hT3, hS3, hD3⟩
  cases b with
  | true =>
    go_wp2_with fail
    go_end0
    exact ⟨rfl, fs, hL3, hT3, by rw [hS3.len]; exact hD3.1 rfl, hS3.mem⟩
  | false =>
    obtain ⟨rfl, hU⟩ := hD3.2 rfl
    go_wp2_with fail
    refine (up_any w3 hL3 i fs.length hi (by omega) hU).mono ?_
    rintro r w4 ⟨rfl, gs, hL4, hT4, hH4, hS4⟩
    go_wp2_with fail
    go_end0
    exact ⟨rfl, gs, hL4, hT3.trans hT4, by rw [hS4.len]; exact hH4, hS4.mem⟩
set_option maxRecDepth 100000 in
set_option maxHeartbeats 4000000 in
/-- heap.Pop. -/
theorem hpop_any (w : World) {qb bm : Nat} {rv : Value} {es : List E} (h : Ln w qb bm rv es) (hh : Hp es es.length) {f : E} (hf : es[0]? = some f) :
    Calls Tryz.prog 121 #[.iface 139 (.pointer (some ⟨qb, 0, none⟩))] w fun r w' => r = .returned (.iface 91 (.agg #[.string f.n, .int .u64 f.at_])) ∧ ∃ rv' es', Ln w' qb bm rv' es' ∧ Tn w w' qb bm rv rv' ∧ Hp es' es'.length ∧ Wo es es' f := by
  have m1 := m_pop
  have m2 := m_len
  have m3 := m_swap
  have hl := h.len
  obtain ⟨n, hn⟩ : ∃ n, es.length = n + 1 := ⟨es.length - 1, by have := (List.getElem?_eq_some_iff.1 hf).1; omega⟩
  obtain ⟨b, hb⟩ := some_at (es := es) (k := n) (by omega)
  go_enter Tryz.func121, Tryz.ntmps121
  go_wp2_with fail
  refine (llen_any w h).mono ?_
  rintro r w2 ⟨rfl, rfl⟩
  rw [hn]
  go_wp2_with fail
  refine (swap_int w2 _ _ h hf hb ⟨rfl⟩ ⟨by omega⟩).mono ?_
  rintro r w3 ⟨rfl, hL3, hT3⟩
  go_wp2_with fail
  refine (down_any w3 hL3 0 n (by omega) (by rw [swp_len]; omega) (swp_hd hh hn (by omega) hf hb)).mono ?_
  rintro r w4 ⟨bb, rfl, fs, hL4, hT4, hS4, hD4⟩
  have hfl : fs.length = n + 1 := by rw [hS4.len, swp_len, hn]
  have hfn : fs[n]? = some f := by rw [hS4.rest n (by omega), swp_at hf hb, if_pos rfl]
  have hH : Hp fs n := by
    cases bb with
    | true => exact hD4.1 rfl
    | false => obtain ⟨rfl, hU⟩ := hD4.2 rfl; exact hU.done (fun h => absurd h (by omega))
  have hsp := last_split hfl hfn
  obtain ⟨is, his⟩ : ∃ is, is = fs.take n := ⟨_, rfl⟩
  rw [← his] at hsp
  subst hsp
  have hil : is.length = n := by simpa using hfl
  clear his
  go_wp2_with fail
  refine (lpop_any w4 hL4).mono ?_
  rintro r w5 ⟨rfl, rv5, hL5, hT5⟩
  go_wp2_with fail
  go_ret
  refine ⟨rfl, rv5, is, hL5, (hT3.trans hT4).trans hT5, ?_, wo_init hL4 fun x => (hS4.mem x).trans (swp_mem hf hb x)⟩
  rw [hil]
  exact hH.congr fun k hk => by rw [List.getElem?_append_left (by omega)]
set_option maxRecDepth 100000 in
set_option maxHeartbeats 4000000 in
/-- heap.Remove. -/
theorem hremove_any (w : World) {qb bm : Nat} {rv : Value} {es : List E} (h : Ln w qb bm rv es) (hh : Hp es es.length) {i : Nat} {f : E} (hf : es[i]? = some f) :
    Calls Tryz.prog 88 #[.iface 139 (.pointer (some ⟨qb, 0, none⟩)), .int .i64 i] w fun r w' => (∃ v, r = .returned v) ∧ ∃ rv' es', Ln w' qb bm rv' es' ∧ Tn w w' qb bm rv rv' ∧ Hp es' es'.length ∧ Wo es es' f := by
  have m1 := m_pop
  have m2 := m_len
  have m3 := m_swap
  have hl := h.len
  have hil := (List.getElem?_eq_some_iff.1 hf).1
  obtain ⟨n, hn⟩ : ∃ n, es.length = n + 1 := ⟨es.length - 1, by omega⟩
  obtain ⟨b, hb⟩ := some_at (es := es) (k := n) (by omega)
  by_cases hin : i = n
  · subst hin
    have hsp := last_split hn hf
    obtain ⟨is, his⟩ : ∃ is, is = es.take i := ⟨_, rfl⟩
    rw [← his] at hsp
    subst hsp
    have hil : is.length = i := by simpa using hn
    clear his
    go_enter Tryz.func88, Tryz.ntmps88
    go_wp2_with fail
    refine (llen_any w h).mono ?_
    rintro r w2 ⟨rfl, rfl⟩
    rw [hn]
    have hne : ((i : Int) != i) = false := by simp
    go_wp2_with fail
    refine (lpop_any w2 h).mono ?_
    rintro r w5 ⟨rfl, rv5, hL5, hT5⟩
    go_wp2_with fail
    go_ret
    refine ⟨⟨_, rfl⟩, rv5, is, hL5, hT5, ?_, wo_init h fun x => Iff.rfl⟩
    exact (show Hp (is ++ [f]) is.length from fun k h0 hk => hh k h0 (by simp; omega)).congr fun k hk => by rw [List.getElem?_append_left (by omega)]
  · go_enter Tryz.func88, Tryz.ntmps88
    go_wp2_with fail
    refine (llen_any w h).mono ?_
    rintro r w2 ⟨rfl, rfl⟩
    rw [hn]
    have hne : ((n : Int) != i) = true := by simp; omega
    go_wp2_with fail
    refine (swap_int w2 _ _ h hf hb ⟨rfl⟩ ⟨by omega⟩).mono ?_
    rintro r w3 ⟨rfl, hL3, hT3⟩
    go_wp2_with fail
    refine (down_any w3 hL3 i n (by omega) (by rw [swp_len]; omega) (swp_hd hh hn (by omega) hf hb)).mono ?_
    rintro r w4 ⟨bb, rfl, fs, hL4, hT4, hS4, hD4⟩
    have hfl : fs.length = n + 1 := by rw [hS4.len, swp_len, hn]
    have hfn : fs[n]? = some f := by rw [hS4.rest n (by omega), swp_at hf hb, if_pos rfl]
    cases bb with
    | true =>
      have hH : Hp fs n := hD4.1 rfl
      have hsp := last_split hfl hfn
      obtain ⟨is, his⟩ : ∃ is, is = fs.take n := ⟨_, rfl⟩
      rw [← his] at hsp
      subst hsp
      have hil : is.length = n := by simpa using hfl
      clear his
      go_wp2_with fail
      refine (lpop_any w4 hL4).mono ?_
      rintro r w5 ⟨rfl, rv5, hL5, hT5⟩
      go_wp2_with fail
      go_ret
      refine ⟨⟨_, rfl⟩, rv5, is, hL5, (hT3.trans hT4).trans hT5, ?_, wo_init hL4 fun x => (hS4.mem x).trans (swp_mem hf hb x)⟩
      rw [hil]
      exact hH.congr fun k hk => by rw [List.getElem?_append_left (by omega)]
    | false =>
      obtain ⟨hfe, hU⟩ := hD4.2 rfl
      subst hfe
      go_wp2_with fail
      refine (up_any w4 hL4 i n (by omega) (by omega) hU).mono ?_
      rintro r w6 ⟨rfl, gs, hL6, hT6, hH6, hS6⟩
      have hgl : gs.length = n + 1 := by rw [hS6.len, hfl]
      have hgn : gs[n]? = some f := by rw [hS6.rest n (by omega), hfn]
      have hsp := last_split hgl hgn
      obtain ⟨is, his⟩ : ∃ is, is = gs.take n := ⟨_, rfl⟩
      rw [← his] at hsp
      subst hsp
      have hil : is.length = n := by simpa using hgl
      clear his
      go_wp2_with fail
      refine (lpop_any w6 hL6).mono ?_
      rintro r w5 ⟨rfl, rv5, hL5, hT5⟩
      go_wp2_with fail
      go_ret
      refine ⟨⟨_, rfl⟩, rv5, is, hL5, ((hT3.trans hT4).trans hT6).trans hT5, ?_, wo_init hL6 fun x => (hS6.mem x).trans (swp_mem hf hb x)⟩
      rw [hil]
      exact hH6.congr fun k hk => by rw [List.getElem?_append_left (by omega)]
end Go.Proofs.YtblnhcnfeagjhaaGreatDoor.Q
