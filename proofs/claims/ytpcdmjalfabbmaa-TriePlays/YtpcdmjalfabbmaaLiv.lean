/- belfrylaw08.alive. -/
import Derived.Test.YtpcdmjalfabbmaaWlk
import Derived.Test.YtpcdmjalfabbmaaPut
import Derived.Test.YtpcdmjalfabbmaaLon
namespace Go.Proofs.Ytpcdmjalfabbmaa
open Go.RowKit Go.Shelf Go.IntWalk Go.Maps
set_option linter.unusedVariables false
/-- Put, with what it answers and what there is then as variables. -/
theorem put_e {w : World} {S : Nat → Prop} {tb : Nat} {L : List E} (h : Tri S w tb L) (k : K) (v : ByteArray) (hk : k.length ≤ 100000) (hl : L.length < 100000) {o : Option ByteArray} (ho : Hid (gt L k = o)) {L' : List E} (hL : Hid (putE ⟨k, v⟩ L = L')) :
    Calls Try.prog 12 #[ptr tb, .string (bt k), .string v] w fun r w' => r = .returned (.tuple #[.string (vOf o), .bool o.isSome]) ∧ Tri (fun j => S j ∨ (w.heap.size ≤ j ∧ j < w'.heap.size)) w' tb L' ∧ Kp S w w' := by
  rw [← ho.out, ← hL.out]
  exact put_any w h k v hk hl
theorem walk_e {N' : Nat} (hp : Pdq N') (hN' : N' ≤ 256) {w : World} {S : Nat → Prop} {tb : Nat} {L : List E} (h : Tri S w tb L) (hle : ∀ ks : List UInt8, ks.Nodup → ks.length ≤ L.length → ks.length ≤ N')
    (k : K) (hk : k.length ≤ 100000) (m : Int) {es : List E} (he : Hid ((sub L k).take m.toNat = es)) :
    Calls Try.prog 19 #[ptr tb, .string (bt k), .int .i64 m] w fun r w' => ∃ a cap, r = .returned (.slice a es.length cap) ∧ w'.ownsRow w.heap.size 46 2 (.slice a es.length cap) es.length (cellsE es) ∧ w.grownBy w' none := by
  refine (walk_any hp hN' w h hle k hk m).mono ?_
  rintro r w' ⟨v, es', rfl, rfl, h2, h3⟩
  rw [he.out] at h2
  rcases id h2.2 with ⟨rfl, h0⟩ | ⟨g, cap, cur, rfl, _⟩
  · refine ⟨none, 0, by rw [h0], ?_, h3⟩
    rw [h0] at h2 ⊢
    exact h2
  · exact ⟨_, _, rfl, h2, h3⟩
theorem Tri.keep {w w' : World} {S : Nat → Prop} {tb : Nat} {L : List E} (h : Tri S w tb L) (hg : w.grownBy w' none) : Tri S w' tb L := h.kept fun k _ hk => hg.block k hk (by simp)
theorem rw_of {w : World} {base : Nat} {v : Value} {es : List E} (h : w.ownsRow base 46 2 v es.length (cellsE es)) : Rw 46 w v es := ⟨h.1, h.2.imp id fun ⟨g, cap, cur, e, hb, rest⟩ => ⟨g, cap, cur, e, Nat.zero_le _, rest⟩⟩
def kabc : K := [97, 98, 99]
def kabd : K := [97, 98, 100]
def kab : K := [97, 98]
def kabcd : K := [97, 98, 99, 100]
def n1 : ByteArray := ⟨#[49]⟩
def n2 : ByteArray := ⟨#[50]⟩
def n3 : ByteArray := ⟨#[51]⟩
theorem q1 : putE ⟨kabc, n1⟩ [] = [⟨kabc, n1⟩] := rfl
theorem q2 : putE ⟨kabd, n2⟩ [⟨kabc, n1⟩] = [⟨kabc, n1⟩, ⟨kabd, n2⟩] := by simp [putE, kabc, kabd, List.cons_lt_cons_iff]
theorem q3 : putE ⟨kabc, n3⟩ [⟨kabc, n1⟩, ⟨kabd, n2⟩] = [⟨kabc, n3⟩, ⟨kabd, n2⟩] := by simp [putE, kabc, kabd, List.cons_lt_cons_iff]
theorem q4 : gt [⟨kabc, n1⟩] kabd = none := by simp [gt, kabc, kabd]
theorem q5 : gt [⟨kabc, n1⟩, ⟨kabd, n2⟩] kabc = some n1 := by simp [gt]
theorem q6 : (sub [⟨kabc, n3⟩, ⟨kabd, n2⟩] kab).take (9 : Int).toNat = [⟨kabc, n3⟩, ⟨kabd, n2⟩] := by
  have h1 : kab <+: kabc := ⟨[99], rfl⟩
  have h2 : kab <+: kabd := ⟨[100], rfl⟩
  simp [sub, h1, h2]
theorem q7 : IsLong [⟨kabc, n3⟩, ⟨kabd, n2⟩] kabcd (some ⟨kabc, n3⟩) := by
  refine ⟨by simp, ⟨[100], rfl⟩, fun x hx h => ?_⟩
  simp at hx
  rcases hx with rfl | rfl
  · exact List.prefix_rfl
  · revert h; show kabd <+: kabcd → _; unfold kabd kabcd; decide
theorem q8 : nds [⟨kabc, n3⟩, ⟨kabd, n2⟩] = 4 := by decide +kernel
theorem q9 : Srt [⟨kabc, n3⟩, ⟨kabd, n2⟩] := by simp [Srt, kabc, kabd, List.cons_lt_cons_iff]
theorem q0 (k : K) : gt [] k = none := rfl
theorem Kp.none {C : Nat → Prop} {w a b : World} (h : w.grownBy a none) (k : Kp C a b) (hC : ∀ j, C j → w.heap.size ≤ j) : w.grownBy b none :=
  ⟨k.os.trans h.os, k.tape.trans h.tape, k.output.trans h.output, Nat.le_trans h.size k.size, fun j hj _ => (k.block j (Nat.lt_of_lt_of_le hj h.size) (fun e => by have := hC j e; omega)).trans (h.block j hj (by simp))⟩
set_option maxRecDepth 100000 in
set_option maxHeartbeats 2000000 in
theorem alive_any (w : World) : Calls Try.prog 10 #[] w fun r w' => r = .returned (.bool true) ∧ w.grownBy w' none := by
  go_enter Try.func10, Try.ntmps10
  go_wp2_with fail
  refine (new_any w).mono ?_
  rintro r w1 ⟨tb, rfl, hs1, hg1⟩
  go_wp2_with fail
  refine (put_e hs1 kabc n1 (by simp [kabc]) (by simp) (o := none) ⟨q0 _⟩ ⟨q1⟩).mono ?_
  rintro r w2 ⟨rfl, hs2, hk2⟩
  have hg2 := hk2.none hg1 (fun j h => h.1)
  clear hk2 hs1
  go_wp2_with fail
  refine (put_e hs2 kabd n2 (by simp [kabd]) (by simp) (o := none) ⟨q4⟩ ⟨q2⟩).mono ?_
  rintro r w3 ⟨rfl, hs3, hk3⟩
  have hz1 := hg1.size
  have hz2 := hg2.size
  have hg3 := hk3.none hg2 (fun j h => by omega)
  clear hk3 hs2
  go_wp2_with fail
  refine (put_e hs3 kabc n3 (by simp [kabc]) (by simp) (o := some ⟨#[49]⟩) ⟨q5⟩ ⟨q3⟩).mono ?_
  rintro r w4 ⟨rfl, hs4, hk4⟩
  have hz3 := hg3.size
  have hg4 := hk4.none hg3 (fun j h => by omega)
  clear hk4 hs3
  have hlo := longest_any w4 hs4 kabcd (by simp [kabcd])
  have hz4 := hg4.size
  go_wp2_with fail
  refine hlo.mono ?_
  rintro r w5 ⟨o, hio, rfl, hg5⟩
  have hoe := hio.un q9 q7
  subst hoe
  have hg6 := grown_none hg4 hg5
  have hs5 := hs4.keep hg5
  clear hlo hio
  have hga := World.grownBy_alloc w5 (.cells #[.string (bt kabc), .string n3] 46) none
  have hs6 := hs5.keep hga
  have hg7 := grown_none hg6 hga
  have hnew := World.alloc_heap_new w5 (.cells #[.string (bt kabc), .string n3] 46)
  have hlt : w5.heap.size < (w5.alloc (.cells #[.string (bt kabc), .string n3] 46)).heap.size := by simp
  have hwk := walk_e pdq12 (by omega) hs6 (fun ks _ h => by simp at h; omega) kab (by simp [kab]) 9 ⟨q6⟩
  replace hs4 : Hid _ := ⟨hs4⟩
  replace hs5 : Hid _ := ⟨hs5⟩
  replace hs6 : Hid _ := ⟨hs6⟩
  replace hnew : Hid _ := ⟨hnew⟩
  replace hwk : Hid _ := ⟨hwk⟩
  clear hg5 hga
  go_wp2_with fail
  refine hwk.out.mono ?_
  rintro r w7 ⟨a, cap, rfl, hrow, hg8⟩
  have hs7 := hs6.out.keep hg8
  have hg9 := grown_none hg7 hg8
  have hce : w7.cell? ⟨w5.heap.size, 1, none⟩ = some (.string n3) := by
    refine grown_cell hg8 ?_
    have := hnew.out
    simp only [World.cell?, this]
    rfl
  have hrw := rw_of hrow
  obtain ⟨g, rfl, hgl, -, k1, k2, -⟩ := hrw.at (i := 1) rfl
  change _ = some (Value.string ⟨#[97, 98, 100]⟩) at k1
  change _ = some (Value.string ⟨#[51]⟩) at hce
  clear hrow hrw hg8 k2 hwk hnew
  go_wp2_with fail
  refine (nodes_any w7 hs7 ⟨q8⟩).mono ?_
  rintro r w8 ⟨rfl, rfl⟩
  go_wp2_with fail
  refine (len_any w8 hs7).mono ?_
  rintro r w9 ⟨rfl, rfl⟩
  go_wp2
  go_ret
  exact ⟨rfl, hg9⟩
end Go.Proofs.Ytpcdmjalfabbmaa
