/- The walk of QueueOrder. -/
import Derived.Test.YtipcoghhnbgalaaMor
namespace Go.Proofs.Ytipcoghhnbgalaa
open Go.RowKit Go.IntWalk Go.Maps
set_option linter.unusedVariables false
/-- What a round of QueueOrder has. -/
def Ord (W wr : World) (qb pb lb : Nat) (L : List E) (k : Nat) : Prop := ∃ ln la, St W wr [.q qb (L.drop k), .q pb (L.drop k), .b lb (.cells #[.string ln, .int .u64 la] 36 (0, 0))] ∧ (0 < k → L[k - 1]? = some ⟨ln, la⟩)
set_option maxRecDepth 100000 in
set_option maxHeartbeats 4000000 in
theorem order_walk (a : Option Addr) (len cap : Nat) (xs : List Ac) (W : World) (ha : Acs W.heap.size W (.slice a len cap) xs) : Calls Try.prog 4 #[.slice a len cap] W fun e W' => e = .returned (.bool true) ∧ Below W.heap.size W W' := by
  obtain ⟨a', cap', e', hxl⟩ := ha.shape
  simp only [Value.slice.injEq] at e'
  obtain ⟨rfl, rfl, rfl⟩ := e'
  have hbo := bld_ok ha 150
  go_enter Try.func4, Try.ntmps4
  go_wp2_with fail
  refine (built_s (St.start W) ha hxl).mono ?_
  rintro r w1 ⟨qb, rfl, h1⟩
  go_wp2_with fail
  refine (built_s h1 ha hxl).mono ?_
  rintro r w2 ⟨pb, rfl, h2⟩
  obtain ⟨L, hL⟩ : ∃ L, L = bld (xs.take 150) := ⟨_, rfl⟩
  rw [← hL] at h2 hbo
  have hsL : Srt L := by rw [hL]; exact bld_srt _
  have hlen := h2.q.2.1
  clear hL h1
  have h2' := h2.swap
  go_wp2_with fail
  refine (len_s h2').mono ?_
  rintro r w3 ⟨rfl, rfl⟩
  have h3 := (h2'.box (.cells #[.string ⟨#[]⟩, .int .u64 0] 36)).perm (l' := [.q qb L, .q pb L, .b w3.heap.size (.cells #[.string ⟨#[]⟩, .int .u64 0] 36)]) (((List.Perm.swap _ _ _).trans ((List.Perm.swap _ _ _).cons _)))
  go_wp2_with fail
  replace h3 : Hid (Ord W (w3.alloc (.cells #[.string ⟨#[]⟩, .int .u64 0] 36)) qb pb w3.heap.size L 0) := ⟨⟨_, _, h3, fun h => by omega⟩⟩
  replace hbo : Hid _ := ⟨hbo⟩
  replace hsL : Hid _ := ⟨hsL⟩
  clear h2 h2'
  go_loopw [7] (fun i wr => ∃ k : Nat, k ≤ L.length ∧ i = .int .i64 k ∧ Hid (Ord W wr qb pb w3.heap.size L k))
    (fun i _ => L.length - (intOf i).toNat)
  case atStart => exact ⟨0, by omega, rfl, h3⟩
  case round =>
    clear h3
    obtain ⟨k, hk, rfl, ⟨ln, la, hS, hlast⟩⟩ := hrel
    generalize hlb : w3.heap.size = lb at *
    by_cases hlt : k < L.length
    · have hd : decide ((k : Int) < L.length) = true := by simp; omega
      obtain ⟨f, hf, hdr⟩ := drop_cons hlt
      have hfm : f ∈ L.drop k := by rw [hdr]; simp
      have hfL : f ∈ L := List.mem_of_mem_drop hfm
      have hfo := hbo.out f hfL
      have hfs : f.n.size ≤ maxLen := small _ hfo.1
      have hatn := atN_mem (hsL.out.sub (List.drop_sublist k L)) hfm
      have hdel : delN f.n (L.drop k) = L.drop (k + 1) := by
        have := hsL.out.sub (List.drop_sublist k L)
        rw [hdr] at this ⊢
        exact this.head.2.2
      have hfr : fr (L.drop k) = (f, true) := by rw [hdr]; rfl
      have htl : (L.drop k).tail = L.drop (k + 1) := by rw [hdr]; rfl
      replace hdr : Hid _ := ⟨hdr⟩
      replace hlast : Hid _ := ⟨hlast⟩
      replace hf : Hid _ := ⟨hf⟩
      replace hdel : Hid _ := ⟨hdel⟩
      have hlbl : lb < wr.heap.size := (Array.getElem?_eq_some_iff.1 (hS.mb (k := lb) (o := .cells #[.string ln, .int .u64 la] 36 (0, 0)) (by simp))).1
      go_wp2_with fail
      refine (pop_s hS).mono ?_
      rintro r w5 ⟨rfl, h5⟩
      rw [htl] at h5
      rw [hfr]
      dsimp only
      go_wp2_with fail
      have h6 := h5.box (.cells #[.string f.n, .int .u64 f.at_] 36)
      refine (at_m h6 (qb := pb) (L := L.drop k) (by simp) hfs).mono ?_
      rintro r w6 ⟨rfl, rfl⟩
      rw [hatn.1, hatn.2]
      have hlb5 := h5.mb (k := lb) (o := .cells #[.string ln, .int .u64 la] 36 (0, 0)) (by simp)
      obtain ⟨l0, l1, lf⟩ := own_b hlb5
      have hlbl5 : lb < w5.heap.size := (Array.getElem?_eq_some_iff.1 hlb5).1
      have hn1 : lb ≠ w5.heap.size := by omega
      have hn2 : w5.heap.size ≠ lb := by omega
      have l0' := fun o => grown_cell (World.grownBy_alloc w5 o none) l0
      have l1' := fun o => grown_cell (World.grownBy_alloc w5 o none) l1
      have h7 : St W (((w5.setCell ⟨lb, 0, none⟩ (.string f.n)).setCell ⟨lb, 1, none⟩ (.int .u64 f.at_)).alloc (.cells #[.string f.n, .int .u64 f.at_] 36)) _ := ((h5.rot.put2 (.string f.n) (.int .u64 f.at_)).grown (World.grownBy_alloc _ (.cells #[.string f.n, .int .u64 f.at_] 36) none)).rot
      clear h5 h6 hlb5
      by_cases hk0 : k = 0
      · have hd0 : decide ((k : Int) > 0) = false := by simp; omega
        have hd0n : decide (0 < k) = false := by simp; omega
        have hd0m : ¬ 0 < k := by omega
        replace hk0 : Hid _ := ⟨hk0⟩
        go_wp2_with fail
        refine (drop_s h7 f.n hfs).mono ?_
        rintro r w8 ⟨rfl, h8⟩
        rw [hdel.out] at h8
        have h9 : Hid (Ord W w8 qb pb lb L (k + 1)) := ⟨⟨_, _, h8.rot, fun _ => by simpa using hf.out⟩⟩
        clear h8
        go_wp2_with fail
        go_roundw
        case rel => exact ⟨k + 1, by omega, by go_num, h9⟩
        case measure => simp [intOf]; omega
      · have hd0 : decide ((k : Int) > 0) = true := by simp; omega
        have hd0n : decide (0 < k) = true := by simp; omega
        have hd0m : 0 < k := by omega
        have hlt' : lt ⟨ln, la⟩ f := hsL.out.next (hlast.out (by omega)) hf.out (by omega)
        replace hk0 : Hid _ := ⟨hk0⟩
        rcases hlt' with hlt' | ⟨hle, hln⟩
        · have q1 : decide (f.at_ < la) = false := by simp; dsimp only at hlt'; omega
          have q2 : (f.at_ == la) = false := by simp; dsimp only at hlt'; omega
          clear hlt'
          go_wp2_with fail
          refine (drop_s h7 f.n hfs).mono ?_
          rintro r w8 ⟨rfl, h8⟩
          rw [hdel.out] at h8
          have h9 : Hid (Ord W w8 qb pb lb L (k + 1)) := ⟨⟨_, _, h8.rot, fun _ => by simpa using hf.out⟩⟩
          clear h8
          go_wp2_with fail
          go_roundw
          case rel => exact ⟨k + 1, by omega, by go_num, h9⟩
          case measure => simp [intOf]; omega
        · dsimp only at hle hln
          subst hle
          have q3 : Op.bytesLess f.n.toList ln.toList = false := by rw [bytesLess_eq]; simp only [decide_eq_false_iff_not]; exact fun h3 => List.lt_irrefl _ (List.lt_trans hln h3)
          have q4 : (f.n.toList == ln.toList) = false := by
            simp only [beq_eq_false_iff_ne, ne_eq]
            exact fun h4 => List.lt_irrefl _ (h4 ▸ hln)
          clear hln
          go_wp2_with fail
          refine (drop_s h7 f.n hfs).mono ?_
          rintro r w8 ⟨rfl, h8⟩
          rw [hdel.out] at h8
          have h9 : Hid (Ord W w8 qb pb lb L (k + 1)) := ⟨⟨_, _, h8.rot, fun _ => by simpa using hf.out⟩⟩
          clear h8
          go_wp2_with fail
          go_roundw
          case rel => exact ⟨k + 1, by omega, by go_num, h9⟩
          case measure => simp [intOf]; omega
    · have hd : decide ((k : Int) < L.length) = false := by simp; omega
      have hke : L.drop k = [] := List.drop_eq_nil_of_le (by omega)
      rw [hke] at hS
      clear hlast hke
      go_wp2_with fail
      refine (pop_s hS).mono ?_
      rintro r w5 ⟨rfl, h5⟩
      have e1 : (fr []).1.n = ⟨#[]⟩ := rfl
      have e2 : (fr []).1.at_ = 0 := rfl
      have e3 : (fr []).2 = false := rfl
      rw [e1, e2, e3]
      go_wp2_with fail
      refine (alive_s (h5.grown (World.grownBy_alloc w5 (.cells #[.string ⟨#[]⟩, .int .u64 0] 36) none))).mono ?_
      rintro r w6 ⟨rfl, h6⟩
      go_wp2_with fail
      refine (len_m h6 (qb := qb) (L := []) (by simp)).mono ?_
      rintro r w7 ⟨rfl, rfl⟩
      go_wp2_with fail
      refine (len_m h6 (qb := pb) (L := []) (by simp)).mono ?_
      rintro r w8 ⟨rfl, rfl⟩
      go_wp2
      go_ret
      exact ⟨rfl, h6.2⟩
end Go.Proofs.Ytipcoghhnbgalaa
