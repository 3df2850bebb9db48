/- slices.Sort of few bytes. -/
import Derived.Test.YtpcdmjalfabbmaaIsr
import Derived.Test.YtpcdmjalfabbmaaLay
namespace Go.Proofs.Ytpcdmjalfabbmaa
open Go.RowKit Go.Shelf Go.IntWalk Go.Maps
set_option linter.unusedVariables false
theorem bits_any (x : Int) (w : World) (h0 : 0 ≤ x) (h1 : x ≤ 18446744073709551615) : Calls Try.prog 55 #[.int .u64 x] w fun e w' => e = .returned (.int .i64 (Lib.bitLen x.toNat)) ∧ w' = w := Any.bits_Len Try.lays125 x w h0 h1
/-- pdqsort sorts up to N bytes. -/
def Pdq (N : Nat) : Prop := ∀ (w : World) (base : Nat) (v : Value) (es : List UInt8), Br w base v es → es.length ≤ N → ∀ l : Nat, l ≤ 64 → Calls Try.prog 54 #[v, .int .i64 0, .int .i64 es.length, .int .i64 l] w fun r w' => r = .returned (.tuple #[]) ∧ ∃ es', Br w' base v es' ∧ es'.Perm es ∧ Sd es' 0 es'.length ∧ w.grownBy w' v.ownBlock
set_option maxRecDepth 100000 in
set_option maxHeartbeats 2000000 in
theorem pdq12 : Pdq 12 := by
  intro w base v es h hl l hl2
  have hc := isort_any w h 0 es.length (by omega) (by omega) (by omega)
  obtain ⟨ad, cap, rfl⟩ := h.shape
  go_enter Try.func54, Try.ntmps54
  go_wp2_with fail
  go_loopw [1, 2] (fun a b wr => a = .int .i64 0 ∧ b = .int .i64 es.length ∧ wr = w) (fun _ _ _ => 0)
  case atStart => exact ⟨rfl, rfl, rfl⟩
  case round =>
    obtain ⟨rfl, rfl, rfl⟩ := hrel
    have hle : (es.length : Int) ≤ 12 := by omega
    go_wp2_with fail
    refine hc.mono ?_
    rintro r w1 ⟨rfl, es', hB, hP, hS, hG⟩
    have hfl := hP.len
    replace hB : Hid _ := ⟨hB⟩
    replace hP : Hid _ := ⟨hP⟩
    replace hS : Hid _ := ⟨hS⟩
    replace hG : Hid _ := ⟨hG⟩
    replace hfl : Hid _ := ⟨hfl⟩
    go_wp2
    refine bodyPost_ret (results_none rfl _ _ _) rfl ?_
    exact ⟨rfl, es', hB.out, hP.out.perm, by rw [hfl.out]; exact hS.out, hG.out⟩
theorem Sd.le {es : List UInt8} (h : Sd es 0 es.length) : es.Pairwise (fun x y => x.toNat ≤ y.toNat) := by
  rw [List.pairwise_iff_getElem]
  intro i j hi hj hij
  exact h i j _ _ (by omega) hij hj (List.getElem?_eq_getElem hi) (List.getElem?_eq_getElem hj)
theorem Sd.lt {es : List UInt8} (h : Sd es 0 es.length) (hn : es.Nodup) : es.Pairwise (fun x y => x < y) := by
  have := h.le.and hn
  refine this.imp fun {x y} hxy => ?_
  rw [UInt8.lt_iff_toNat_lt]
  have h2 : x.toNat ≠ y.toNat := fun e => hxy.2 (UInt8.toNat_inj.1 e)
  omega
set_option maxRecDepth 100000 in
set_option maxHeartbeats 2000000 in
/-- slices.Sort. -/
theorem sort_any {N : Nat} (hp : Pdq N) (hN : N ≤ 256) (w : World) {base : Nat} {v : Value} {es : List UInt8} (h : Br w base v es) (hl : es.length ≤ N) :
    Calls Try.prog 51 #[v] w fun r w' => r = .returned (.tuple #[]) ∧ ∃ es', Br w' base v es' ∧ es'.Perm es ∧ Sd es' 0 es'.length ∧ w.grownBy w' v.ownBlock := by
  have hb : Lib.bitLen (es.length : Int).toNat ≤ 64 := Lib.bitLen_le _ 64 (by omega) (by simp; omega)
  have hc := hp w base v es h hl (Lib.bitLen (es.length : Int).toNat) hb
  have hd := bits_any (es.length : Int) w (by omega) (by omega)
  obtain ⟨ad, cap, rfl⟩ := h.shape
  have hwr : IntKind.u64.wrap (es.length : Int) = es.length := by simp [IntKind.wrap, IntKind.bits, IntKind.signed]; omega
  go_enter Try.func51, Try.ntmps51
  go_wp2_with (go_at_call 55; refine hd.mono ?_; rintro e w' ⟨rfl, rfl⟩)
  rw [Int.toNat_natCast] at hc
  refine hc.mono ?_
  rintro r w1 ⟨rfl, es', hB, hP, hS, hG⟩
  replace hB : Hid _ := ⟨hB⟩
  replace hP : Hid _ := ⟨hP⟩
  replace hS : Hid _ := ⟨hS⟩
  replace hG : Hid _ := ⟨hG⟩
  go_wp2
  go_end0
  exact ⟨rfl, es', hB.out, hP.out, hS.out, hG.out⟩
/-- slices.Sorted(maps.Keys(m)). -/
theorem sorted_any {N : Nat} (hp : Pdq N) (hN : N ≤ 256) (w : World) (Bm b : Nat) {f : UInt8 → Option Nat} (hBm : Bm < w.heap.size) (hc : w.cell? ⟨Bm, 0, none⟩ = some (.map (some b))) (hkm : Km w b f) (hle : ∀ ks : List UInt8, ks.Nodup → (∀ c, c ∈ ks ↔ (f c).isSome = true) → ks.length ≤ N) :
    Calls Try.prog 48 #[.func (.func 52) #[] #[ptr Bm]] w fun r w' => ∃ v ks, r = .returned v ∧ ks.Pairwise (fun x y => x < y) ∧ (∀ c, c ∈ ks ↔ (f c).isSome = true) ∧ Br w' w.heap.size v ks ∧ Below w.heap.size w w' := by
  have h := collect_any w Bm b hBm hc hkm
  go_enter Try.func48, Try.ntmps48
  go_wp2_with fail
  refine h.mono ?_
  rintro r w1 ⟨v, ks, rfl, ⟨h1, h2⟩, h3, h4⟩
  have k := sort_any hp hN w1 h3 (hle ks h1 h2)
  replace h1 : Hid _ := ⟨h1⟩
  replace h2 : Hid _ := ⟨h2⟩
  replace h3 : Hid _ := ⟨h3⟩
  replace h4 : Hid _ := ⟨h4⟩
  go_wp2_with fail
  refine k.mono ?_
  rintro r w2 ⟨rfl, es', hB, hP, hS, hG⟩
  replace hB : Hid _ := ⟨hB⟩
  replace hP : Hid _ := ⟨hP⟩
  replace hS : Hid _ := ⟨hS⟩
  replace hG : Hid _ := ⟨hG⟩
  go_wp2
  go_ret
  refine ⟨v, es', rfl, hS.out.lt (hP.out.nodup_iff.2 h1.out), fun c => ?_, hB.out, ?_⟩
  · rw [hP.out.mem_iff]
    exact h2.out c
  · exact h4.out.grown hG.out h4.out.size (fun j e => (h3.out.lt j e).1)
end Go.Proofs.Ytpcdmjalfabbmaa
