/- A trie beside the document's list. -/
import Derived.Test.YtpcdmjalfabbmaaMrf
import Derived.Test.YtpcdmjalfabbmaaCpy
import Derived.Test.YtpcdmjalfabbmaaBlt
import Derived.Deep.CutRange
namespace Go.Proofs.Ytpcdmjalfabbmaa
open Go.RowKit Go.IntWalk Go.Maps Go.Shelf
set_option linter.unusedVariables false
/-- A trie in blocks that are new since W, below m, of entries L; a row ls of entries A, not in them. -/
structure Plt (m : Nat) (W w : World) (tb : Nat) (L : List E) (ls : Value) (A : List E) : Prop where
  ex : ∃ S : Nat → Prop, Tri S w tb L ∧ (∀ j, S j → W.heap.size ≤ j ∧ j < m) ∧ ∀ g, ls.ownBlock = some g → ¬ S g
  mm : m ≤ w.heap.size
  row : Rw 33 w ls A
  g : W.grownBy w none
section
variable {m : Nat} {W w w' : World} {tb : Nat} {L A : List E} {ls : Value}
theorem Plt.keep (h : Plt m W w tb L ls A) (hg : w.grownBy w' none) : Plt m W w' tb L ls A := by
  obtain ⟨S, h1, h3, h6⟩ := h.ex
  exact ⟨⟨S, h1.keep hg, h3, h6⟩, Nat.le_trans h.mm hg.size, World.ownsRow.kept h.row hg (Classical.em _), grown_none h.g hg⟩
theorem Plt.up (h : Plt m W w tb L ls A) {n : Nat} (hn : m ≤ n) (hw : n ≤ w.heap.size) : Plt n W w tb L ls A := by
  obtain ⟨S, h1, h3, h6⟩ := h.ex
  exact ⟨⟨S, h1, fun j hj => ⟨(h3 j hj).1, by have := (h3 j hj).2; omega⟩, h6⟩, hw, h.row, h.g⟩
theorem Plt.full (h : Plt m W w tb L ls A) : Plt w.heap.size W w tb L ls A := h.up h.mm (Nat.le_refl _)
theorem Plt.srt (h : Plt m W w tb L ls A) : Srt L := by obtain ⟨S, h1, _⟩ := h.ex; exact h1.srt
theorem Plt.rowlt (h : Plt m W w tb L ls A) {g : Nat} (hg : ls.ownBlock = some g) : g < w.heap.size := by
  rcases h.row.2 with ⟨e, _⟩ | ⟨g', cp, cur, e, _, hg6, _⟩
  · rw [e] at hg; cases hg
  · rw [e] at hg
    simp only [Value.ownBlock, Option.some.injEq] at hg
    subst hg
    exact (Array.getElem?_eq_some_iff.1 hg6).1
/-- Another row, new. -/
theorem Plt.newrow (h : Plt m W w tb L ls A) (hg : w.grownBy w' none) {ls' : Value} {A' : List E} (hr : Rw 33 w' ls' A') (hn : ∀ k, ls'.ownBlock = some k → w.heap.size ≤ k) : Plt m W w' tb L ls' A' := by
  obtain ⟨S, h1, h3, h6⟩ := h.ex
  exact ⟨⟨S, h1.keep hg, h3, fun g he hs => by have := hn g he; have := (h3 g hs).2; have := h.mm; omega⟩, Nat.le_trans h.mm hg.size, hr, grown_none h.g hg⟩
theorem pl_put (h : Plt m W w tb L ls A) (k : K) (v : ByteArray) (hk : k.length ≤ 100000) (hl : L.length < 100000) {o : Option ByteArray} (ho : Hid (gt L k = o)) : Calls Try.prog 12 #[ptr tb, .string (bt k), .string v] w fun r w' => r = .returned (.tuple #[.string (vOf o), .bool o.isSome]) ∧ Plt w'.heap.size W w' tb (putE ⟨k, v⟩ L) ls A ∧ ∀ j, m ≤ j → j < w.heap.size → w'.heap[j]? = w.heap[j]? := by
  obtain ⟨S, h1, h3, h6⟩ := h.ex
  refine (put_any w h1 k v hk hl).mono ?_
  rintro r w' ⟨rfl, h7, h8⟩
  rw [ho.out]
  have hsz := h8.size
  have hgs := h.g.size
  have hm := h.mm
  refine ⟨rfl, ⟨⟨_, h7, fun j hj => ?_, fun g hg hj2 => ?_⟩, Nat.le_refl _, Rw.kept h.row fun g hg => h8.block g (h.rowlt hg) (h6 g hg), h8.none h.g fun j hj => (h3 j hj).1⟩, fun j hj hj2 => h8.block j hj2 fun hs => by have := (h3 j hs).2; omega⟩
  · rcases hj with hj | hj
    · have := h3 j hj; omega
    · omega
  · rcases hj2 with h' | h'
    · exact h6 g hg h'
    · have := h.rowlt hg; omega
theorem pl_drop (h : Plt m W w tb L ls A) (k : K) (hk : k.length ≤ 100000) {o : Option ByteArray} (ho : Hid (gt L k = o)) : Calls Try.prog 14 #[ptr tb, .string (bt k)] w fun r w' => r = .returned (.tuple #[.string (vOf o), .bool o.isSome]) ∧ Plt m W w' tb (delE k L) ls A ∧ ∀ j, m ≤ j → j < w.heap.size → w'.heap[j]? = w.heap[j]? := by
  obtain ⟨S, h1, h3, h6⟩ := h.ex
  refine (drop_any w h1 k (by omega) ho).mono ?_
  rintro r w' ⟨rfl, h7, h8⟩
  have hm := h.mm
  exact ⟨rfl, ⟨⟨S, h7, h3, h6⟩, Nat.le_trans h.mm h8.size, Rw.kept h.row fun g hg => h8.block g (h.rowlt hg) (h6 g hg), h8.none h.g fun j hj => (h3 j hj).1⟩, fun j hj hj2 => h8.block j hj2 fun hs => by have := (h3 j hs).2; omega⟩
/-- Beside its copy. -/
structure Ptc (W w : World) (tb ub : Nat) (L : List E) (ls : Value) (A : List E) : Prop where
  ex : ∃ S U : Nat → Prop, Tri S w tb L ∧ Tri U w ub L ∧ (∀ j, S j → W.heap.size ≤ j ∧ j < w.heap.size) ∧ (∀ j, U j → W.heap.size ≤ j ∧ j < w.heap.size) ∧ (∀ j, S j → ¬ U j) ∧ ∀ g, ls.ownBlock = some g → ¬ S g ∧ ¬ U g
  row : Rw 33 w ls A
  lt : ∀ g, ls.ownBlock = some g → g < w.heap.size
  g : W.grownBy w none
theorem pl_copy (h : Plt m W w tb L ls A) : Calls Try.prog 16 #[ptr tb] w fun r w' => ∃ ub, r = .returned (ptr ub) ∧ Ptc W w' tb ub L ls A ∧ w.grownBy w' none := by
  obtain ⟨S, h1, h3, h6⟩ := h.ex
  refine (copy_any w h1).mono ?_
  rintro r w' ⟨ub, U, rfl, hU, hUS, hg⟩
  have hsz := hg.size
  have hm := h.mm
  have hgs := h.g.size
  exact ⟨ub, rfl, ⟨⟨S, U, h1.keep hg, hU, fun j hj => by have := h3 j hj; omega, fun j hj => by have := hUS j hj; omega, fun j hj hj2 => by have := h3 j hj; have := hUS j hj2; omega, fun g he => ⟨h6 g he, fun hj => by have := h.rowlt he; have := hUS g hj; omega⟩⟩, World.ownsRow.kept h.row hg (Classical.em _), fun g he => by have := h.rowlt he; omega, grown_none h.g hg⟩, hg⟩
theorem pl_cdrop {ub : Nat} (h : Ptc W w tb ub L ls A) (k : K) (hk : k.length ≤ 100000) : Calls Try.prog 14 #[ptr tb, .string (bt k)] w fun r w' => (∃ x y, r = .returned (.tuple #[x, y])) ∧ Plt w'.heap.size W w' ub L ls A := by
  obtain ⟨S, U, h1, h2, h3, h4, h5, h6⟩ := h.ex
  refine (drop_any w h1 k (by omega) ⟨rfl⟩).mono ?_
  rintro r w' ⟨rfl, h7, h8⟩
  have hsz := h8.size
  exact ⟨⟨_, _, rfl⟩, ⟨⟨U, h2.kept fun j hj hj2 => h8.block j hj2 (fun hs => h5 j hs hj), fun j hj => by have := h4 j hj; omega, fun g he => (h6 g he).2⟩, Nat.le_refl _, Rw.kept h.row fun g hg => h8.block g (h.lt g hg) (h6 g hg).1, h8.none h.g fun j hj => (h3 j hj).1⟩⟩
theorem pl_walk (h : Plt m W w tb L ls A) (p : K) (hp : p.length ≤ 100000) (z : Int) {Q : List E} (hQ : Hid ((sub L p).take z.toNat = Q)) : Calls Try.prog 19 #[ptr tb, .string (bt p), .int .i64 z] w fun r w' => ∃ a cap, r = .returned (.slice a Q.length cap) ∧ Rw 46 w' (.slice a Q.length cap) Q ∧ w.grownBy w' none := by
  obtain ⟨S, h1, _⟩ := h.ex
  refine (walk_e pdq256 (by omega) h1 (fun ks hn _ => bytes_le hn) p hp z hQ).mono ?_
  rintro r w' ⟨a, cap, rfl, hr, hg⟩
  exact ⟨a, cap, rfl, rw_of hr, hg⟩
theorem pl_len (h : Plt m W w tb L ls A) : Calls Try.prog 21 #[ptr tb] w fun r w' => r = .returned (.int .i64 L.length) ∧ w' = w := by
  obtain ⟨S, h1, _⟩ := h.ex
  exact len_any w h1
theorem pl_nodes (h : Plt m W w tb L ls A) {z : Nat} (hz : Hid (nds L = z)) : Calls Try.prog 22 #[ptr tb] w fun r w' => r = .returned (.int .i64 z) ∧ w' = w := by
  obtain ⟨S, h1, _⟩ := h.ex
  exact nodes_any w h1 hz
theorem pl_longest (h : Plt m W w tb L ls A) (k : K) (hk : k.length ≤ 100000) : Calls Try.prog 25 #[ptr tb, .string (bt k)] w fun r w' => ∃ o, IsLong L k o ∧ r = .returned (.tuple #[.agg #[.string (bt (ek o)), .string (ev o)], .bool o.isSome]) ∧ w.grownBy w' none := by
  obtain ⟨S, h1, _⟩ := h.ex
  exact longest_any w h1 k hk
theorem pl_get (h : Plt m W w tb L ls A) (k : K) (hk : k.length ≤ 100000) {o : Option ByteArray} (ho : Hid (gt L k = o)) : Calls Try.prog 26 #[ptr tb, .string (bt k)] w fun r w' => r = .returned (.tuple #[.string (vOf o), .bool o.isSome]) ∧ w.grownBy w' none := by
  obtain ⟨S, h1, _⟩ := h.ex
  exact get_any w h1 k (by omega) ho
end
/-- The document's place and the trie's entry are one. -/
theorem lng_same {L : List E} (hs : Srt L) {k : K} {i : Int} {o : Option E} (h1 : Lng L k i) (h2 : IsLong L k o) : (o = none ∧ i = -1) ∨ ∃ (n : Nat) (x : E), o = some x ∧ i = n ∧ L[n]? = some x := by
  rcases h1 with ⟨n, x, rfl, hx, hxk, hmx⟩ | ⟨rfl, hno⟩
  · cases o with
    | none => exact absurd hxk (h2 x (List.mem_of_getElem? hx))
    | some y =>
      obtain ⟨hy1, hy2, hy3⟩ := h2
      have h3 := hy3 x (List.mem_of_getElem? hx) hxk
      have h4 := hmx y hy1 hy2
      have h5 : x.k = y.k := h3.eq_of_length (Nat.le_antisymm h3.length_le h4)
      have h6 := hs.un (List.mem_of_getElem? hx) hy1 h5
      exact .inr ⟨n, x, by rw [h6], rfl, hx⟩
  · cases o with
    | none => exact .inl ⟨rfl, rfl⟩
    | some y => exact absurd h2.2.1 (hno y h2.1)
theorem fnd_some {L : List E} (hs : Srt L) {k : K} {i : Int} (h : Fnd L k i) {o : Option ByteArray} (ho : gt L k = o) : (o = none ∧ i = -1) ∨ ∃ (n : Nat) (x : E), o = some x.v ∧ i = n ∧ L[n]? = some x := by
  rcases h with ⟨n, x, rfl, hx, rfl⟩ | ⟨rfl, hn⟩
  · exact .inr ⟨n, x, by rw [← ho, hs.gt (List.mem_of_getElem? hx)], rfl, hx⟩
  · exact .inl ⟨by rw [← ho, hn], rfl⟩
theorem fnd_dec {L : List E} (hs : Srt L) {k : K} {i : Int} (h : Fnd L k i) {o : Option ByteArray} (ho : gt L k = o) : decide (i ≥ 0) = o.isSome := by
  rcases fnd_some hs h ho with ⟨rfl, rfl⟩ | ⟨n, x, rfl, rfl, _⟩
  · rfl
  · simp
end Go.Proofs.Ytpcdmjalfabbmaa

/- The walk of TriePlays. -/
namespace Go.Proofs.Ytpcdmjalfabbmaa
open Go.RowKit Go.IntWalk Go.Maps Go.Shelf
set_option linter.unusedVariables false
set_option linter.unusedSimpArgs false
theorem rw33_p {w : World} {base : Nat} {v : Value} {es : List E} (h : w.ownsRow base 33 2 v es.length (cellsE es)) : Rw 33 w v es := ⟨h.1, h.2.imp id fun ⟨g, cap, cur, e, hb, rest⟩ => ⟨g, cap, cur, e, Nat.zero_le _, rest⟩⟩
/-- The state between two rounds. -/
def Sta (W0 w : World) (tb : Nat) (L : List E) (la : Option Addr) (lc : Nat) : Prop := Plt w.heap.size W0 w tb L (.slice la L.length lc) L ∧ (∀ x ∈ L, x.k.length ≤ 40)
theorem oq_new (W : World) (q : Oq) : (W.alloc (.cells #[.string (bt q.pf), .int .i64 q.mo, .string (bt q.ky)] 24)).cell? ⟨W.heap.size, 0, none⟩ = some (.string (bt q.pf)) ∧ (W.alloc (.cells #[.string (bt q.pf), .int .i64 q.mo, .string (bt q.ky)] 24)).cell? ⟨W.heap.size, 1, none⟩ = some (.int .i64 q.mo) ∧ (W.alloc (.cells #[.string (bt q.pf), .int .i64 q.mo, .string (bt q.ky)] 24)).cell? ⟨W.heap.size, 2, none⟩ = some (.string (bt q.ky)) :=
  ⟨cell_new W #[.string (bt q.pf), .int .i64 q.mo, .string (bt q.ky)] 24 (i := 0) rfl, cell_new W #[.string (bt q.pf), .int .i64 q.mo, .string (bt q.ky)] 24 (i := 1) rfl, cell_new W #[.string (bt q.pf), .int .i64 q.mo, .string (bt q.ky)] 24 (i := 2) rfl⟩
set_option maxRecDepth 100000 in
set_option maxHeartbeats 16000000 in
theorem plays_walk (a : Option Addr) (cap : Nat) (xs : List Ac) (q : Oq) (W : World) (ha : Acs W.heap.size W (.slice a xs.length cap) xs) (hq : q.ok) (hxl : xs.length ≤ maxLen) :
    Calls Try.prog 3 #[.slice a xs.length cap, .agg #[.string (bt q.pf), .int .i64 q.mo, .string (bt q.ky)]] W fun e W' => e = .returned (.bool true) ∧ Below W.heap.size W W' := by
  unfold maxLen at hxl
  have htl := bt_toList
  have sp := bt_size q.pf
  have sk := bt_size q.ky
  have hpm := hq.2.1
  have hkm := hq.2.2
  unfold maxLen at hpm hkm
  replace hq : Hid _ := ⟨hq⟩
  obtain ⟨o0, o1, o2⟩ := oq_new W q
  have gW := World.grownBy_alloc W (.cells #[.string (bt q.pf), .int .i64 q.mo, .string (bt q.ky)] 24) none
  obtain ⟨O, hO⟩ : ∃ O, W.heap.size = O := ⟨_, rfl⟩
  have hOlt : O < (W.alloc (.cells #[.string (bt q.pf), .int .i64 q.mo, .string (bt q.ky)] 24)).heap.size := by simp [hO]
  rw [hO] at o0 o1 o2
  go_enter Try.func3, Try.ntmps3
  go_wp2_with fail
  obtain ⟨W0, hW0⟩ : ∃ W0, W0 = W.alloc (.cells #[.string (bt q.pf), .int .i64 q.mo, .string (bt q.ky)] 24) := ⟨_, rfl⟩
  rw [← hW0] at o0 o1 o2 gW hOlt ⊢
  clear hW0
  replace gW : Hid _ := ⟨gW⟩
  replace hO : Hid _ := ⟨hO⟩
  refine (new_any W0).mono ?_
  rintro r w1 ⟨tb, rfl, hs1, hg1⟩
  have p0 := grown_cell hg1 o0
  have p1 := grown_cell hg1 o1
  have p2 := grown_cell hg1 o2
  have hS0 : Hid (Sta W0 w1 tb [] none 0) := ⟨⟨⟨_, hs1, fun j hj => hj, fun g hg => by simp [Value.ownBlock] at hg⟩, Nat.le_refl _, World.ownsRow_nil _ _ _ _, hg1⟩, by simp⟩
  clear hs1 hg1
  by_cases hpk : q.pf.length ≤ 40 ∧ q.ky.length ≤ 40
  · obtain ⟨hp40, hk40⟩ := hpk
    have dp : decide ((q.pf.length : Int) > 40) = false := by simp; omega
    have dk : decide ((q.ky.length : Int) > 40) = false := by simp; omega
    have dp' : (q.pf.length : Int) ≤ 40 := by omega
    have dk' : (q.ky.length : Int) ≤ 40 := by omega
    go_wp2_with fail
    clear p0 p1 p2
    go_loopw [5, 6, 7] (fun tv lv iv wr => ∃ (i tb : Nat) (L : List E) (la : Option Addr) (lc : Nat), tv = ptr tb ∧ lv = .slice la L.length lc ∧ iv = .int .i64 i ∧ i ≤ xs.length ∧ i ≤ 120 ∧ L.length ≤ i ∧ Hid (Sta W0 wr tb L la lc))
      (fun _ _ iv _ => 120 - (intOf iv).toNat)
    case atStart => exact ⟨0, tb, [], none, 0, rfl, rfl, rfl, by omega, by omega, by simp, hS0⟩
    case round =>
      clear hS0
      obtain ⟨i, tb, L, la, lc, rfl, rfl, rfl, hi, hi2, hLl, hS⟩ := hrel
      by_cases hgo : i < xs.length ∧ i < 120
      · obtain ⟨hlt, h120⟩ := hgo
        have hd1 : decide ((i : Int) < xs.length) = true := by simp; omega
        have hd2 : decide ((i : Int) < 120) = true := by simp; omega
        obtain ⟨x, hx⟩ : ∃ x, xs[i]? = some x := ⟨xs[i], List.getElem?_eq_getElem hlt⟩
        have hbe := below_of (grown_none gW.out hS.out.1.g)
        obtain ⟨b, off, rfl, hb', hok, c0, c1, c2⟩ := (ha.below hbe).at hx
        clear hbe
        obtain ⟨B, hB⟩ : ∃ B, wr.heap.size = B := ⟨_, rfl⟩
        have hga := World.grownBy_alloc wr (.cells #[.int .i64 x.kd, .string (bt x.ky), .string x.vl] 30) none
        have d0 := cell_new wr #[.int .i64 x.kd, .string (bt x.ky), .string x.vl] 30 (i := 0) rfl
        have d1 := cell_new wr #[.int .i64 x.kd, .string (bt x.ky), .string x.vl] 30 (i := 1) rfl
        have d2 := cell_new wr #[.int .i64 x.kd, .string (bt x.ky), .string x.vl] 30 (i := 2) rfl
        have hnew := World.alloc_heap_new wr (.cells #[.int .i64 x.kd, .string (bt x.ky), .string x.vl] 30)
        have hS2 := hS.out.1.keep hga
        have hk40 := hS.out.2
        have hsz : (wr.alloc (.cells #[.int .i64 x.kd, .string (bt x.ky), .string x.vl] 30)).heap.size = B + 1 := by simp [hB]
        rw [hB] at d0 d1 d2 hnew hS2
        have z1 := bt_size x.ky
        have hx1 := hok.2.1
        have hx2 := hok.2.2
        unfold maxLen at hx1 hx2
        have hsta : Hid (Sta W0 (wr.alloc (.cells #[.int .i64 x.kd, .string (bt x.ky), .string x.vl] 30)) tb L la lc) := ⟨hS2.full, hk40⟩
        replace hk40 : Hid _ := ⟨hk40⟩
        replace hok : Hid _ := ⟨hok⟩
        clear hx hS
        by_cases hk : x.ky.length ≤ 40
        · have eky : (x.ky.length : Int) ≤ 40 := by omega
          by_cases hv : x.vl.size ≤ 40
          · have evl : (x.vl.size : Int) ≤ 40 := by omega
            have hfd := find_any _ (Lc.of_row hS2.row) (by omega) x.ky
            replace hfd : Hid _ := ⟨hfd⟩
            replace hS2 : Hid _ := ⟨hS2⟩
            replace hnew : Hid _ := ⟨hnew⟩
            replace hga : Hid _ := ⟨hga⟩
            go_wp2_with fail
            refine hfd.out.mono ?_
            rintro r w2 ⟨d, rfl, hF, rfl⟩
            obtain ⟨o, ho⟩ : ∃ o, gt L x.ky = o := ⟨_, rfl⟩
            have hdd := fnd_dec hS2.out.srt hF ho
            have hFs := fnd_some hS2.out.srt hF ho
            replace hFs : Hid _ := ⟨hFs⟩
            replace ho : Hid _ := ⟨ho⟩
            clear hfd hF
            obtain ⟨w2, hw2⟩ : ∃ w2, w2 = wr.alloc (.cells #[.int .i64 x.kd, .string (bt x.ky), .string x.vl] 30) := ⟨_, rfl⟩
            rw [← hw2] at d0 d1 d2 hnew hS2 hsta hsz hga ⊢
            clear hw2
            go_upto_if 68 with fail
            go_cut [10] from 39 to 202 (fun s wx => s = .string (vOf o) ∧ wx = w2)
            case first =>
              rcases hFs.out with ⟨rfl, rfl⟩ | ⟨n, y, rfl, rfl, hy⟩
              · go_wp2_with fail
                go_meet
                case rel => exact ⟨rfl, rfl⟩
              · obtain ⟨g, rfl, hgl, -, e0, e1, -⟩ := hS2.out.row.at hy
                have hnl := (List.getElem?_eq_some_iff.1 hy).1
                have hnI : (n : Int) < L.length := by omega
                replace hy : Hid _ := ⟨hy⟩
                go_wp2_with fail
                go_meet
                case rel => exact ⟨rfl, rfl⟩
            case rest =>
              obtain ⟨rfl, rfl⟩ := hcut
              obtain ⟨w5, hw5⟩ : ∃ w5, w5 = wc := ⟨_, rfl⟩
              subst hw5
              replace d0 : w5.cell? ⟨B, 0, none⟩ = some (.int .i64 x.kd) := d0
              replace d1 : w5.cell? ⟨B, 1, none⟩ = some (.string (bt x.ky)) := d1
              replace d2 : w5.cell? ⟨B, 2, none⟩ = some (.string x.vl) := d2
              have hb1 : (o.isSome != o.isSome) = false := by simp
              have hb2 : ((vOf o).toList != (vOf o).toList) = false := by simp
              have hdd2 : decide (0 ≤ d) = o.isSome := hdd
              clear hFs
              by_cases hk1 : x.kd = 1
              · as_aux_lemma =>
                  have e1 : (x.kd == 1) = true := by simp; omega
                  clear hk1
                  obtain ⟨R, hR⟩ : ∃ R, Hid (putE ⟨x.ky, x.vl⟩ L = R) := ⟨_, ⟨rfl⟩⟩
                  have hRk : Hid (∀ y ∈ R, y.k.length ≤ 40) := ⟨fun y hy => by
                    rw [← hR.out] at hy
                    rcases mem_putE.1 hy with rfl | ⟨hy, _⟩
                    · exact hk
                    · exact hk40.out y hy⟩
                  have hRL : R.length ≤ L.length + 1 := by rw [← hR.out]; exact putE_le hS2.out.srt _
                  have hsr : Hid (Srt L) := ⟨hS2.out.srt⟩
                  have hpt := pl_put hS2.out x.ky x.vl (by omega) (by omega) ho
                  rw [hR.out] at hpt
                  replace hpt : Hid _ := ⟨hpt⟩
                  clear hsta hS2
                  go_wp2_with fail
                  refine hpt.out.mono ?_
                  rintro r w3 ⟨rfl, hS3, hkeep⟩
                  have hb3 := (hkeep B (Nat.le_refl _) (by omega)).trans hnew.out
                  have f1 : w3.cell? ⟨B, 1, none⟩ = some (.string (bt x.ky)) := by simp [World.cell?, hb3]
                  have f2 : w3.cell? ⟨B, 2, none⟩ = some (.string x.vl) := by simp [World.cell?, hb3]
                  have hrp := rput_any w3 (Lc.of_row hS3.row) (by omega) hsr.out ⟨x.ky, x.vl⟩ ⟨rfl⟩ hR
                  dsimp only at hrp
                  replace hrp : Hid _ := ⟨hrp⟩
                  replace hS3 : Hid _ := ⟨hS3⟩
                  clear hpt hkeep hb3 d0 d1 d2
                  go_wp2_with fail
                  refine hrp.out.mono ?_
                  rintro r w4 ⟨ra, rc, rfl, hr4, hg4, hn4⟩
                  have hst : Hid (Sta W0 w4 tb R ra rc) := ⟨(hS3.out.newrow hg4 hr4 hn4).full, hRk.out⟩
                  clear hrp hS3 hr4 hg4 hn4 f1 f2 hnew hga hsz
                  have hRl : R.length ≤ 121 := by omega
                  obtain ⟨Q, hQ⟩ : ∃ Q, Hid ((sub R q.pf).take q.mo.toNat = Q) := ⟨_, ⟨rfl⟩⟩
                  have hQl : Q.length ≤ 10000 := by
                    have h1 := sub_le R q.pf
                    rw [← hQ.out, List.length_take]
                    omega
                  have hky : Hid (∀ y ∈ R, y.k.length ≤ 100000) := ⟨fun y hy => by have := hst.out.2 y hy; omega⟩
                  have p0 := grown_cell hst.out.1.g o0
                  have p1 := grown_cell hst.out.1.g o1
                  have p2 := grown_cell hst.out.1.g o2
                  have hwk : Hid (∀ w', w4.grownBy w' none → Calls Try.prog 19 #[ptr tb, .string (bt q.pf), .int .i64 q.mo] w' fun r w'' => ∃ a cap, r = .returned (.slice a Q.length cap) ∧ Rw 46 w'' (.slice a Q.length cap) Q ∧ w'.grownBy w'' none) := ⟨fun w' h' => pl_walk (hst.out.1.keep h') q.pf (by omega) q.mo hQ⟩
                  have hrw : Hid (∀ w', w4.grownBy w' none → Calls Try.prog 20 #[.slice ra R.length rc, .string (bt q.pf), .int .i64 q.mo] w' fun r w'' => ∃ a cap, r = .returned (.slice a Q.length cap) ∧ Rw 33 w'' (.slice a Q.length cap) Q ∧ w'.grownBy w'' none) := ⟨fun w' h' => rwalk_any w' (Lc.of_row (hst.out.1.keep h').row) (by omega) hky.out q.pf (by omega) q.mo hQ⟩
                  go_upto_region 33 with fail
                  go_cut [16] from 39 to 202 (fun s wx => s = .bool true ∧ Hid (w4.grownBy wx none))
                  case first =>
                    go_wp2_with fail
                    refine wp_region_held_drew (S := fun w' => w'.cell? ⟨O, 0, none⟩ = some (.string (bt q.pf)) ∧ w'.cell? ⟨O, 1, none⟩ = some (.int .i64 q.mo)) (by kernel_rfl) (by (try dsimp only); exact ⟨p0, p1⟩) (fun hHeld => ?_)
                    refine wpAnyH_take (i := 0) (v := ?_) rfl (by kernel_rfl) (by kernel_rfl) (by kernel_rfl) (fun _ _ _ h => h) (Or.inl ⟨by rfl, ?_⟩) (by assumption) ?_
                    rotate_left
                    · (intro w hSw; (try dsimp only at hSw); go_simp; try with_reducible rfl)
                    try simp only [List.getElem_toArray, List.getElem_cons_zero, List.getElem_cons_succ, Act.put, List.setIfInBounds_toArray, List.set_cons_zero, List.set_cons_succ]
                    refine wpAnyH_take (i := 1) (v := ?_) rfl (by kernel_rfl) (by kernel_rfl) (by kernel_rfl) (fun _ _ _ h => h) (Or.inl ⟨by rfl, ?_⟩) (by assumption) ?_
                    rotate_left
                    · (intro w hSw; (try dsimp only at hSw); go_simp; try with_reducible rfl)
                    try simp only [List.getElem_toArray, List.getElem_cons_zero, List.getElem_cons_succ, Act.put, List.setIfInBounds_toArray, List.set_cons_zero, List.set_cons_succ]
                    refine wpAnyH_take (i := 2) (v := ?_) rfl (by kernel_rfl) (by kernel_rfl) (by kernel_rfl) (fun _ _ _ h => h) (Or.inl ⟨by rfl, ?_⟩) (by assumption) ?_
                    rotate_left
                    · (intro w hSw; (try dsimp only at hSw); go_simp; try with_reducible rfl)
                    try simp only [List.getElem_toArray, List.getElem_cons_zero, List.getElem_cons_succ, Act.put, List.setIfInBounds_toArray, List.set_cons_zero, List.set_cons_succ]
                    refine wpAnyH_take (i := 3) (v := ?_) rfl (by kernel_rfl) (by kernel_rfl) (by kernel_rfl) (fun _ _ _ h => h) (Or.inl ⟨by rfl, ?_⟩) (by assumption) ?_
                    rotate_left
                    · (intro w hSw; (try dsimp only at hSw); go_simp; try with_reducible rfl)
                    try simp only [List.getElem_toArray, List.getElem_cons_zero, List.getElem_cons_succ, Act.put, List.setIfInBounds_toArray, List.set_cons_zero, List.set_cons_succ]
                    refine wpAnyH_take (i := 4) (v := ?_) rfl (by kernel_rfl) (by kernel_rfl) (by kernel_rfl) (fun _ _ _ h => h) (Or.inl ⟨by rfl, ?_⟩) (by assumption) ?_
                    rotate_left
                    · (intro w hSw; (try dsimp only at hSw); go_simp; try with_reducible rfl)
                    try simp only [List.getElem_toArray, List.getElem_cons_zero, List.getElem_cons_succ, Act.put, List.setIfInBounds_toArray, List.set_cons_zero, List.set_cons_succ]
                    refine wpAnyH_take (i := 7) (v := ?_) rfl (by kernel_rfl) (by kernel_rfl) (by kernel_rfl) (fun _ _ _ h => h) (Or.inl ⟨by rfl, ?_⟩) (by assumption) ?_
                    rotate_left
                    · (intro w hSw; (try dsimp only at hSw); go_simp; try with_reducible rfl)
                    try simp only [List.getElem_toArray, List.getElem_cons_zero, List.getElem_cons_succ, Act.put, List.setIfInBounds_toArray, List.set_cons_zero, List.set_cons_succ]
                    refine wpAnyH_take (i := 8) (v := ?_) rfl (by kernel_rfl) (by kernel_rfl) (by kernel_rfl) (fun _ _ _ h => h) (Or.inl ⟨by rfl, ?_⟩) (by assumption) ?_
                    rotate_left
                    · (intro w hSw; (try dsimp only at hSw); go_simp; try with_reducible rfl)
                    try simp only [List.getElem_toArray, List.getElem_cons_zero, List.getElem_cons_succ, Act.put, List.setIfInBounds_toArray, List.set_cons_zero, List.set_cons_succ]
                    refine wpAnyH_take (i := 9) (v := ?_) rfl (by kernel_rfl) (by kernel_rfl) (by kernel_rfl) (fun _ _ _ h => h) (Or.inl ⟨by rfl, ?_⟩) (by assumption) ?_
                    rotate_left
                    · (intro w hSw; (try dsimp only at hSw); go_simp; try with_reducible rfl)
                    try simp only [List.getElem_toArray, List.getElem_cons_zero, List.getElem_cons_succ, Act.put, List.setIfInBounds_toArray, List.set_cons_zero, List.set_cons_succ]
                    refine wpAnyH_take (i := 10) (v := ?_) rfl (by kernel_rfl) (by kernel_rfl) (by kernel_rfl) (fun _ _ _ h => h) (Or.inl ⟨by rfl, ?_⟩) (by assumption) ?_
                    rotate_left
                    · (intro w hSw; (try dsimp only at hSw); go_simp; try with_reducible rfl)
                    try simp only [List.getElem_toArray, List.getElem_cons_zero, List.getElem_cons_succ, Act.put, List.setIfInBounds_toArray, List.set_cons_zero, List.set_cons_succ]
                    refine wpAnyH_take (i := 11) (v := ?_) rfl (by kernel_rfl) (by kernel_rfl) (by kernel_rfl) (fun _ _ _ h => h) (Or.inl ⟨by rfl, ?_⟩) (by assumption) ?_
                    rotate_left
                    · (intro w hSw; (try dsimp only at hSw); go_simp; try with_reducible rfl)
                    try simp only [List.getElem_toArray, List.getElem_cons_zero, List.getElem_cons_succ, Act.put, List.setIfInBounds_toArray, List.set_cons_zero, List.set_cons_succ]
                    refine wpAnyH_ready (rs := [5]) (by kernel_rfl) (by simp) ?_
                    refine AllReadyH.cons rfl (fun K hK => ?_) AllReadyH.nil
                    go_simp
                    refine (hwk.out _ (grown_drew _)).mono ?_
                    rintro r w6 ⟨a6, c6, rfl, hr6, hg6⟩
                    go_wp2_with fail
                    refine hK.out _ _ ?_ (fun hHeld => ?_)
                    · ((try dsimp only); exact ⟨grown_cell hg6 hHeld.1, grown_cell hg6 hHeld.2⟩)
                    clear hK K
                    try simp only [List.getElem_toArray, List.getElem_cons_zero, List.getElem_cons_succ, Act.put, List.setIfInBounds_toArray, List.set_cons_zero, List.set_cons_succ]
                    refine wpAnyH_ready (rs := [6]) (by kernel_rfl) (by simp) ?_
                    refine AllReadyH.cons rfl (fun K hK => ?_) AllReadyH.nil
                    go_simp
                    refine (told_any (hr6) hQl).mono ?_
                    rintro r w7 ⟨a7, c7, rfl, hr7, hg7⟩
                    go_wp2_with fail
                    refine hK.out _ _ ?_ (fun hHeld => ?_)
                    · ((try dsimp only); exact ⟨grown_cell hg7 hHeld.1, grown_cell hg7 hHeld.2⟩)
                    clear hK K
                    try simp only [List.getElem_toArray, List.getElem_cons_zero, List.getElem_cons_succ, Act.put, List.setIfInBounds_toArray, List.set_cons_zero, List.set_cons_succ]
                    refine wpAnyH_ready (rs := [12]) (by kernel_rfl) (by simp) ?_
                    refine AllReadyH.cons rfl (fun K hK => ?_) AllReadyH.nil
                    go_simp
                    refine (hrw.out _ (grown_none (grown_none (grown_drew _) hg6) hg7)).mono ?_
                    rintro r w8 ⟨a8, c8, rfl, hr8, hg8⟩
                    have sm := same_any (World.ownsRow.kept (rw33_p hr7) hg8 (Classical.em _)) hr8 (by omega)
                    go_wp2_with fail
                    refine hK.out _ _ ?_ (fun hHeld => ?_)
                    · ((try dsimp only); exact ⟨grown_cell hg8 hHeld.1, grown_cell hg8 hHeld.2⟩)
                    clear hK K
                    try simp only [List.getElem_toArray, List.getElem_cons_zero, List.getElem_cons_succ, Act.put, List.setIfInBounds_toArray, List.set_cons_zero, List.set_cons_succ]
                    refine wpAnyH_ready (rs := [13]) (by kernel_rfl) (by simp) ?_
                    refine AllReadyH.cons rfl (fun K hK => ?_) AllReadyH.nil
                    go_simp
                    refine sm.mono ?_
                    rintro r w9 ⟨rfl, hg9⟩
                    go_wp2_with fail
                    refine hK.out _ _ ?_ (fun hHeld => ?_)
                    · ((try dsimp only); exact ⟨grown_cell hg9 hHeld.1, grown_cell hg9 hHeld.2⟩)
                    clear hK K
                    try simp only [List.getElem_toArray, List.getElem_cons_zero, List.getElem_cons_succ, Act.put, List.setIfInBounds_toArray, List.set_cons_zero, List.set_cons_succ]
                    refine wpAnyH_take (i := 14) (v := ?_) rfl (by kernel_rfl) (by kernel_rfl) (by kernel_rfl) (fun _ _ _ h => h) (Or.inl ⟨by rfl, ?_⟩) (by assumption) ?_
                    rotate_left
                    · (intro w hSw; (try dsimp only at hSw); go_simp; try with_reducible rfl)
                    try simp only [List.getElem_toArray, List.getElem_cons_zero, List.getElem_cons_succ, Act.put, List.setIfInBounds_toArray, List.set_cons_zero, List.set_cons_succ]
                    refine wpAnyH_done (by kernel_rfl) ?_ _
                    go_wp2_with fail
                    go_meet
                    case rel => exact ⟨rfl, ⟨(grown_none (grown_none (grown_none (grown_none (grown_drew _) hg6) hg7) hg8) hg9)⟩⟩
                  case rest =>
                    obtain ⟨rfl, hgc⟩ := hcut
                    obtain ⟨z, hz⟩ : ∃ z, Hid (nds R = z) := ⟨_, ⟨rfl⟩⟩
                    have hst5 := hst.out.1.keep hgc.out
                    have hln := pl_len hst5
                    have hnd := pl_nodes hst5 hz
                    have hrn := rnodes_any wc (Lc.of_row hst5.row) (by omega) hky.out hz
                    have p2 := grown_cell hgc.out p2
                    have hsk := hst.out.2
                    have hne1 : ((R.length : Int) != R.length) = false := by simp
                    have hne2 : ((z : Int) != z) = false := by simp
                    replace hsk : Hid _ := ⟨hsk⟩
                    replace hst5 : Hid _ := ⟨hst5⟩
                    replace hln : Hid _ := ⟨hln⟩
                    replace hnd : Hid _ := ⟨hnd⟩
                    replace hrn : Hid _ := ⟨hrn⟩
                    clear hst hwk hrw p0 p1 hQ hQl hgc hd1 hd2
                    go_wp2_with fail
                    refine hln.out.mono ?_
                    rintro r w9 ⟨rfl, rfl⟩
                    go_wp2_with fail
                    refine hnd.out.mono ?_
                    rintro r w9 ⟨rfl, rfl⟩
                    go_wp2_with fail
                    refine hrn.out.mono ?_
                    rintro r w6 ⟨rfl, hg6⟩
                    have hst6 := hst5.out.keep hg6
                    have p2 := grown_cell hg6 p2
                    have hrl := rlong_any w6 (Lc.of_row hst6.row) (by omega) hky.out q.ky (by omega)
                    replace hst6 : Hid _ := ⟨hst6⟩
                    replace hrl : Hid _ := ⟨hrl⟩
                    clear hln hnd hrn hst5 hg6
                    go_wp2_with fail
                    refine hrl.out.mono ?_
                    rintro r w7 ⟨dl, rfl, hLg, hg7⟩
                    have hst7 := hst6.out.keep hg7
                    have p2 := grown_cell hg7 p2
                    have hlo := pl_longest hst7 q.ky (by omega)
                    replace hst7 : Hid _ := ⟨hst7⟩
                    replace hlo : Hid _ := ⟨hlo⟩
                    replace hLg : Hid _ := ⟨hLg⟩
                    clear hrl hst6 hg7
                    go_wp2_with fail
                    refine hlo.out.mono ?_
                    rintro r w8 ⟨ol, hIo, rfl, hg8⟩
                    have hsm := lng_same hst7.out.srt hLg.out hIo
                    have hst8 := hst7.out.keep hg8
                    replace hst8 : Hid _ := ⟨hst8⟩
                    clear hlo hIo hLg hst7 hg8 p2
                    rcases hsm with ⟨rfl, rfl⟩ | ⟨n, y, rfl, rfl, hy⟩
                    · have hek : ek none = [] := rfl
                      have hev : ev none = bt [] := rfl
                      have hso : (none : Option E).isSome = false := rfl
                      rw [hek, hev, hso]
                      have hfin : Hid (∀ w', (w8.alloc (.cells #[.string (bt []), .string (bt [])] 46)).grownBy w' none → Sta W0 w' tb R ra rc) := ⟨fun w' h' => ⟨((hst8.out.keep (World.grownBy_alloc w8 _ none)).keep h').full, hsk.out⟩⟩
                      haveI := lat_nonempty (w8.alloc (.cells #[.string (bt []), .string (bt [])] 46))
                      clear hst8 hsk
                      go_wp2_with fail
                      refine wp_region_lat (by kernel_rfl) (by kernel_rfl) ?_
                      repeat (go_big_quiet_step (fail))
                      refine wpQuiet_nil ?_
                      intro _ hw'
                      obtain ⟨p, hw''⟩ := hw'
                      subst hw''
                      have hfin2 : Hid _ := ⟨hfin.out _ p.h⟩
                      clear hfin
                      go_wp2_with fail
                      exact ⟨⟨i + 1, tb, R, ra, rc, rfl, rfl, by go_num, by omega, by omega, by omega, hfin2⟩, by simp [intOf]; omega⟩
                    · have hek : ek (some y) = y.k := rfl
                      have hev : ev (some y) = y.v := rfl
                      have hso : (some y).isSome = true := rfl
                      rw [hek, hev, hso]
                      have hfin : Hid (∀ w', (w8.alloc (.cells #[.string (bt y.k), .string y.v] 46)).grownBy w' none → Sta W0 w' tb R ra rc) := ⟨fun w' h' => ⟨((hst8.out.keep (World.grownBy_alloc w8 _ none)).keep h').full, hsk.out⟩⟩
                      haveI := lat_nonempty (w8.alloc (.cells #[.string (bt y.k), .string y.v] 46))
                      obtain ⟨g, hLA, hgl, -, e0, e1, -⟩ := (hst8.out.keep (World.grownBy_alloc w8 (.cells #[.string (bt y.k), .string y.v] 46) none)).row.at hy
                      have kc0 := lat_cell e0
                      have kc1 := lat_cell e1
                      have kb0 := lat_cell (show (w8.alloc (.cells #[.string (bt y.k), .string y.v] 46)).cell? ⟨w8.heap.size, 0, none⟩ = some (.string (bt y.k)) from cell_new w8 #[.string (bt y.k), .string y.v] 46 (i := 0) rfl)
                      have kb1 := lat_cell (show (w8.alloc (.cells #[.string (bt y.k), .string y.v] 46)).cell? ⟨w8.heap.size, 1, none⟩ = some (.string y.v) from cell_new w8 #[.string (bt y.k), .string y.v] 46 (i := 1) rfl)
                      have hnl := (List.getElem?_eq_some_iff.1 hy).1
                      have hnI : (n : Int) < R.length := by omega
                      have hn0 : decide ((n : Int) ≥ 0) = true := by simp
                      have hq1 : (y.k != y.k) = false := by simp
                      have hq2 : (y.v.toList != y.v.toList) = false := by simp
                      replace hy : Hid _ := ⟨hy⟩
                      clear hst8 hsk e0 e1
                      subst hLA
                      go_wp2_with fail
                      refine wp_region_lat (by kernel_rfl) (by kernel_rfl) ?_
                      repeat (go_big_quiet_step (fail))
                      refine wpQuiet_nil ?_
                      intro _ hw'
                      obtain ⟨p, hw''⟩ := hw'
                      subst hw''
                      have hfin2 : Hid _ := ⟨hfin.out _ p.h⟩
                      clear hfin kc0 kc1 kb0 kb1
                      go_wp2_with fail
                      exact ⟨⟨i + 1, tb, R, some ⟨g, 0, none⟩, rc, rfl, rfl, by go_num, by omega, by omega, by omega, hfin2⟩, by simp [intOf]; omega⟩
              · by_cases hk2 : x.kd = 2
                · as_aux_lemma =>
                    have e1 : (x.kd == 1) = false := by simp; omega
                    have e2 : (x.kd == 2) = true := by simp; omega
                    clear hk1 hk2
                    obtain ⟨R, hR⟩ : ∃ R, Hid (delE x.ky L = R) := ⟨_, ⟨rfl⟩⟩
                    have hRk : Hid (∀ y ∈ R, y.k.length ≤ 40) := ⟨fun y hy => by
                      rw [← hR.out] at hy
                      exact hk40.out y (mem_delE.1 hy).1⟩
                    have hRL : R.length ≤ L.length := by rw [← hR.out]; exact delE_le _ _
                    have hpt := pl_drop hS2.out x.ky (by omega) ho
                    rw [hR.out] at hpt
                    replace hpt : Hid _ := ⟨hpt⟩
                    clear hsta hS2
                    go_wp2_with fail
                    refine hpt.out.mono ?_
                    rintro r w3 ⟨rfl, hS3, hkeep⟩
                    have hb3 := (hkeep B (Nat.le_refl _) (by omega)).trans hnew.out
                    have f1 : w3.cell? ⟨B, 1, none⟩ = some (.string (bt x.ky)) := by simp [World.cell?, hb3]
                    have hrp := rdrop_any w3 (Lc.of_row hS3.row) (by omega) x.ky hR
                    replace hrp : Hid _ := ⟨hrp⟩
                    replace hS3 : Hid _ := ⟨hS3⟩
                    clear hpt hkeep hb3 d0 d1 d2
                    go_wp2_with fail
                    refine hrp.out.mono ?_
                    rintro r w4 ⟨ra, rc, rfl, hr4, hg4, hn4⟩
                    have hst : Hid (Sta W0 w4 tb R ra rc) := ⟨(hS3.out.newrow hg4 hr4 hn4).full, hRk.out⟩
                    clear hrp hS3 hr4 hg4 hn4 f1 hnew hga hsz
                    have hRl : R.length ≤ 121 := by omega
                    obtain ⟨Q, hQ⟩ : ∃ Q, Hid ((sub R q.pf).take q.mo.toNat = Q) := ⟨_, ⟨rfl⟩⟩
                    have hQl : Q.length ≤ 10000 := by
                      have h1 := sub_le R q.pf
                      rw [← hQ.out, List.length_take]
                      omega
                    have hky : Hid (∀ y ∈ R, y.k.length ≤ 100000) := ⟨fun y hy => by have := hst.out.2 y hy; omega⟩
                    have p0 := grown_cell hst.out.1.g o0
                    have p1 := grown_cell hst.out.1.g o1
                    have p2 := grown_cell hst.out.1.g o2
                    have hwk : Hid (∀ w', w4.grownBy w' none → Calls Try.prog 19 #[ptr tb, .string (bt q.pf), .int .i64 q.mo] w' fun r w'' => ∃ a cap, r = .returned (.slice a Q.length cap) ∧ Rw 46 w'' (.slice a Q.length cap) Q ∧ w'.grownBy w'' none) := ⟨fun w' h' => pl_walk (hst.out.1.keep h') q.pf (by omega) q.mo hQ⟩
                    have hrw : Hid (∀ w', w4.grownBy w' none → Calls Try.prog 20 #[.slice ra R.length rc, .string (bt q.pf), .int .i64 q.mo] w' fun r w'' => ∃ a cap, r = .returned (.slice a Q.length cap) ∧ Rw 33 w'' (.slice a Q.length cap) Q ∧ w'.grownBy w'' none) := ⟨fun w' h' => rwalk_any w' (Lc.of_row (hst.out.1.keep h').row) (by omega) hky.out q.pf (by omega) q.mo hQ⟩
                    go_upto_region 33 with fail
                    go_cut [16] from 39 to 202 (fun s wx => s = .bool true ∧ Hid (w4.grownBy wx none))
                    case first =>
                      go_wp2_with fail
                      refine wp_region_held_drew (S := fun w' => w'.cell? ⟨O, 0, none⟩ = some (.string (bt q.pf)) ∧ w'.cell? ⟨O, 1, none⟩ = some (.int .i64 q.mo)) (by kernel_rfl) (by (try dsimp only); exact ⟨p0, p1⟩) (fun hHeld => ?_)
                      refine wpAnyH_take (i := 0) (v := ?_) rfl (by kernel_rfl) (by kernel_rfl) (by kernel_rfl) (fun _ _ _ h => h) (Or.inl ⟨by rfl, ?_⟩) (by assumption) ?_
                      rotate_left
                      · (intro w hSw; (try dsimp only at hSw); go_simp; try with_reducible rfl)
                      try simp only [List.getElem_toArray, List.getElem_cons_zero, List.getElem_cons_succ, Act.put, List.setIfInBounds_toArray, List.set_cons_zero, List.set_cons_succ]
                      refine wpAnyH_take (i := 1) (v := ?_) rfl (by kernel_rfl) (by kernel_rfl) (by kernel_rfl) (fun _ _ _ h => h) (Or.inl ⟨by rfl, ?_⟩) (by assumption) ?_
                      rotate_left
                      · (intro w hSw; (try dsimp only at hSw); go_simp; try with_reducible rfl)
                      try simp only [List.getElem_toArray, List.getElem_cons_zero, List.getElem_cons_succ, Act.put, List.setIfInBounds_toArray, List.set_cons_zero, List.set_cons_succ]
                      refine wpAnyH_take (i := 2) (v := ?_) rfl (by kernel_rfl) (by kernel_rfl) (by kernel_rfl) (fun _ _ _ h => h) (Or.inl ⟨by rfl, ?_⟩) (by assumption) ?_
                      rotate_left
                      · (intro w hSw; (try dsimp only at hSw); go_simp; try with_reducible rfl)
                      try simp only [List.getElem_toArray, List.getElem_cons_zero, List.getElem_cons_succ, Act.put, List.setIfInBounds_toArray, List.set_cons_zero, List.set_cons_succ]
                      refine wpAnyH_take (i := 3) (v := ?_) rfl (by kernel_rfl) (by kernel_rfl) (by kernel_rfl) (fun _ _ _ h => h) (Or.inl ⟨by rfl, ?_⟩) (by assumption) ?_
                      rotate_left
                      · (intro w hSw; (try dsimp only at hSw); go_simp; try with_reducible rfl)
                      try simp only [List.getElem_toArray, List.getElem_cons_zero, List.getElem_cons_succ, Act.put, List.setIfInBounds_toArray, List.set_cons_zero, List.set_cons_succ]
                      refine wpAnyH_take (i := 4) (v := ?_) rfl (by kernel_rfl) (by kernel_rfl) (by kernel_rfl) (fun _ _ _ h => h) (Or.inl ⟨by rfl, ?_⟩) (by assumption) ?_
                      rotate_left
                      · (intro w hSw; (try dsimp only at hSw); go_simp; try with_reducible rfl)
                      try simp only [List.getElem_toArray, List.getElem_cons_zero, List.getElem_cons_succ, Act.put, List.setIfInBounds_toArray, List.set_cons_zero, List.set_cons_succ]
                      refine wpAnyH_take (i := 7) (v := ?_) rfl (by kernel_rfl) (by kernel_rfl) (by kernel_rfl) (fun _ _ _ h => h) (Or.inl ⟨by rfl, ?_⟩) (by assumption) ?_
                      rotate_left
                      · (intro w hSw; (try dsimp only at hSw); go_simp; try with_reducible rfl)
                      try simp only [List.getElem_toArray, List.getElem_cons_zero, List.getElem_cons_succ, Act.put, List.setIfInBounds_toArray, List.set_cons_zero, List.set_cons_succ]
                      refine wpAnyH_take (i := 8) (v := ?_) rfl (by kernel_rfl) (by kernel_rfl) (by kernel_rfl) (fun _ _ _ h => h) (Or.inl ⟨by rfl, ?_⟩) (by assumption) ?_
                      rotate_left
                      · (intro w hSw; (try dsimp only at hSw); go_simp; try with_reducible rfl)
                      try simp only [List.getElem_toArray, List.getElem_cons_zero, List.getElem_cons_succ, Act.put, List.setIfInBounds_toArray, List.set_cons_zero, List.set_cons_succ]
                      refine wpAnyH_take (i := 9) (v := ?_) rfl (by kernel_rfl) (by kernel_rfl) (by kernel_rfl) (fun _ _ _ h => h) (Or.inl ⟨by rfl, ?_⟩) (by assumption) ?_
                      rotate_left
                      · (intro w hSw; (try dsimp only at hSw); go_simp; try with_reducible rfl)
                      try simp only [List.getElem_toArray, List.getElem_cons_zero, List.getElem_cons_succ, Act.put, List.setIfInBounds_toArray, List.set_cons_zero, List.set_cons_succ]
                      refine wpAnyH_take (i := 10) (v := ?_) rfl (by kernel_rfl) (by kernel_rfl) (by kernel_rfl) (fun _ _ _ h => h) (Or.inl ⟨by rfl, ?_⟩) (by assumption) ?_
                      rotate_left
                      · (intro w hSw; (try dsimp only at hSw); go_simp; try with_reducible rfl)
                      try simp only [List.getElem_toArray, List.getElem_cons_zero, List.getElem_cons_succ, Act.put, List.setIfInBounds_toArray, List.set_cons_zero, List.set_cons_succ]
                      refine wpAnyH_take (i := 11) (v := ?_) rfl (by kernel_rfl) (by kernel_rfl) (by kernel_rfl) (fun _ _ _ h => h) (Or.inl ⟨by rfl, ?_⟩) (by assumption) ?_
                      rotate_left
                      · (intro w hSw; (try dsimp only at hSw); go_simp; try with_reducible rfl)
                      try simp only [List.getElem_toArray, List.getElem_cons_zero, List.getElem_cons_succ, Act.put, List.setIfInBounds_toArray, List.set_cons_zero, List.set_cons_succ]
                      refine wpAnyH_ready (rs := [5]) (by kernel_rfl) (by simp) ?_
                      refine AllReadyH.cons rfl (fun K hK => ?_) AllReadyH.nil
                      go_simp
                      refine (hwk.out _ (grown_drew _)).mono ?_
                      rintro r w6 ⟨a6, c6, rfl, hr6, hg6⟩
                      go_wp2_with fail
                      refine hK.out _ _ ?_ (fun hHeld => ?_)
                      · ((try dsimp only); exact ⟨grown_cell hg6 hHeld.1, grown_cell hg6 hHeld.2⟩)
                      clear hK K
                      try simp only [List.getElem_toArray, List.getElem_cons_zero, List.getElem_cons_succ, Act.put, List.setIfInBounds_toArray, List.set_cons_zero, List.set_cons_succ]
                      refine wpAnyH_ready (rs := [6]) (by kernel_rfl) (by simp) ?_
                      refine AllReadyH.cons rfl (fun K hK => ?_) AllReadyH.nil
                      go_simp
                      refine (told_any (hr6) hQl).mono ?_
                      rintro r w7 ⟨a7, c7, rfl, hr7, hg7⟩
                      go_wp2_with fail
                      refine hK.out _ _ ?_ (fun hHeld => ?_)
                      · ((try dsimp only); exact ⟨grown_cell hg7 hHeld.1, grown_cell hg7 hHeld.2⟩)
                      clear hK K
                      try simp only [List.getElem_toArray, List.getElem_cons_zero, List.getElem_cons_succ, Act.put, List.setIfInBounds_toArray, List.set_cons_zero, List.set_cons_succ]
                      refine wpAnyH_ready (rs := [12]) (by kernel_rfl) (by simp) ?_
                      refine AllReadyH.cons rfl (fun K hK => ?_) AllReadyH.nil
                      go_simp
                      refine (hrw.out _ (grown_none (grown_none (grown_drew _) hg6) hg7)).mono ?_
                      rintro r w8 ⟨a8, c8, rfl, hr8, hg8⟩
                      have sm := same_any (World.ownsRow.kept (rw33_p hr7) hg8 (Classical.em _)) hr8 (by omega)
                      go_wp2_with fail
                      refine hK.out _ _ ?_ (fun hHeld => ?_)
                      · ((try dsimp only); exact ⟨grown_cell hg8 hHeld.1, grown_cell hg8 hHeld.2⟩)
                      clear hK K
                      try simp only [List.getElem_toArray, List.getElem_cons_zero, List.getElem_cons_succ, Act.put, List.setIfInBounds_toArray, List.set_cons_zero, List.set_cons_succ]
                      refine wpAnyH_ready (rs := [13]) (by kernel_rfl) (by simp) ?_
                      refine AllReadyH.cons rfl (fun K hK => ?_) AllReadyH.nil
                      go_simp
                      refine sm.mono ?_
                      rintro r w9 ⟨rfl, hg9⟩
                      go_wp2_with fail
                      refine hK.out _ _ ?_ (fun hHeld => ?_)
                      · ((try dsimp only); exact ⟨grown_cell hg9 hHeld.1, grown_cell hg9 hHeld.2⟩)
                      clear hK K
                      try simp only [List.getElem_toArray, List.getElem_cons_zero, List.getElem_cons_succ, Act.put, List.setIfInBounds_toArray, List.set_cons_zero, List.set_cons_succ]
                      refine wpAnyH_take (i := 14) (v := ?_) rfl (by kernel_rfl) (by kernel_rfl) (by kernel_rfl) (fun _ _ _ h => h) (Or.inl ⟨by rfl, ?_⟩) (by assumption) ?_
                      rotate_left
                      · (intro w hSw; (try dsimp only at hSw); go_simp; try with_reducible rfl)
                      try simp only [List.getElem_toArray, List.getElem_cons_zero, List.getElem_cons_succ, Act.put, List.setIfInBounds_toArray, List.set_cons_zero, List.set_cons_succ]
                      refine wpAnyH_done (by kernel_rfl) ?_ _
                      go_wp2_with fail
                      go_meet
                      case rel => exact ⟨rfl, ⟨(grown_none (grown_none (grown_none (grown_none (grown_drew _) hg6) hg7) hg8) hg9)⟩⟩
                    case rest =>
                      obtain ⟨rfl, hgc⟩ := hcut
                      obtain ⟨z, hz⟩ : ∃ z, Hid (nds R = z) := ⟨_, ⟨rfl⟩⟩
                      have hst5 := hst.out.1.keep hgc.out
                      have hln := pl_len hst5
                      have hnd := pl_nodes hst5 hz
                      have hrn := rnodes_any wc (Lc.of_row hst5.row) (by omega) hky.out hz
                      have p2 := grown_cell hgc.out p2
                      have hsk := hst.out.2
                      have hne1 : ((R.length : Int) != R.length) = false := by simp
                      have hne2 : ((z : Int) != z) = false := by simp
                      replace hsk : Hid _ := ⟨hsk⟩
                      replace hst5 : Hid _ := ⟨hst5⟩
                      replace hln : Hid _ := ⟨hln⟩
                      replace hnd : Hid _ := ⟨hnd⟩
                      replace hrn : Hid _ := ⟨hrn⟩
                      clear hst hwk hrw p0 p1 hQ hQl hgc hd1 hd2
                      go_wp2_with fail
                      refine hln.out.mono ?_
                      rintro r w9 ⟨rfl, rfl⟩
                      go_wp2_with fail
                      refine hnd.out.mono ?_
                      rintro r w9 ⟨rfl, rfl⟩
                      go_wp2_with fail
                      refine hrn.out.mono ?_
                      rintro r w6 ⟨rfl, hg6⟩
                      have hst6 := hst5.out.keep hg6
                      have p2 := grown_cell hg6 p2
                      have hrl := rlong_any w6 (Lc.of_row hst6.row) (by omega) hky.out q.ky (by omega)
                      replace hst6 : Hid _ := ⟨hst6⟩
                      replace hrl : Hid _ := ⟨hrl⟩
                      clear hln hnd hrn hst5 hg6
                      go_wp2_with fail
                      refine hrl.out.mono ?_
                      rintro r w7 ⟨dl, rfl, hLg, hg7⟩
                      have hst7 := hst6.out.keep hg7
                      have p2 := grown_cell hg7 p2
                      have hlo := pl_longest hst7 q.ky (by omega)
                      replace hst7 : Hid _ := ⟨hst7⟩
                      replace hlo : Hid _ := ⟨hlo⟩
                      replace hLg : Hid _ := ⟨hLg⟩
                      clear hrl hst6 hg7
                      go_wp2_with fail
                      refine hlo.out.mono ?_
                      rintro r w8 ⟨ol, hIo, rfl, hg8⟩
                      have hsm := lng_same hst7.out.srt hLg.out hIo
                      have hst8 := hst7.out.keep hg8
                      replace hst8 : Hid _ := ⟨hst8⟩
                      clear hlo hIo hLg hst7 hg8 p2
                      rcases hsm with ⟨rfl, rfl⟩ | ⟨n, y, rfl, rfl, hy⟩
                      · have hek : ek none = [] := rfl
                        have hev : ev none = bt [] := rfl
                        have hso : (none : Option E).isSome = false := rfl
                        rw [hek, hev, hso]
                        have hfin : Hid (∀ w', (w8.alloc (.cells #[.string (bt []), .string (bt [])] 46)).grownBy w' none → Sta W0 w' tb R ra rc) := ⟨fun w' h' => ⟨((hst8.out.keep (World.grownBy_alloc w8 _ none)).keep h').full, hsk.out⟩⟩
                        haveI := lat_nonempty (w8.alloc (.cells #[.string (bt []), .string (bt [])] 46))
                        clear hst8 hsk
                        go_wp2_with fail
                        refine wp_region_lat (by kernel_rfl) (by kernel_rfl) ?_
                        repeat (go_big_quiet_step (fail))
                        refine wpQuiet_nil ?_
                        intro _ hw'
                        obtain ⟨p, hw''⟩ := hw'
                        subst hw''
                        have hfin2 : Hid _ := ⟨hfin.out _ p.h⟩
                        clear hfin
                        go_wp2_with fail
                        exact ⟨⟨i + 1, tb, R, ra, rc, rfl, rfl, by go_num, by omega, by omega, by omega, hfin2⟩, by simp [intOf]; omega⟩
                      · have hek : ek (some y) = y.k := rfl
                        have hev : ev (some y) = y.v := rfl
                        have hso : (some y).isSome = true := rfl
                        rw [hek, hev, hso]
                        have hfin : Hid (∀ w', (w8.alloc (.cells #[.string (bt y.k), .string y.v] 46)).grownBy w' none → Sta W0 w' tb R ra rc) := ⟨fun w' h' => ⟨((hst8.out.keep (World.grownBy_alloc w8 _ none)).keep h').full, hsk.out⟩⟩
                        haveI := lat_nonempty (w8.alloc (.cells #[.string (bt y.k), .string y.v] 46))
                        obtain ⟨g, hLA, hgl, -, e0, e1, -⟩ := (hst8.out.keep (World.grownBy_alloc w8 (.cells #[.string (bt y.k), .string y.v] 46) none)).row.at hy
                        have kc0 := lat_cell e0
                        have kc1 := lat_cell e1
                        have kb0 := lat_cell (show (w8.alloc (.cells #[.string (bt y.k), .string y.v] 46)).cell? ⟨w8.heap.size, 0, none⟩ = some (.string (bt y.k)) from cell_new w8 #[.string (bt y.k), .string y.v] 46 (i := 0) rfl)
                        have kb1 := lat_cell (show (w8.alloc (.cells #[.string (bt y.k), .string y.v] 46)).cell? ⟨w8.heap.size, 1, none⟩ = some (.string y.v) from cell_new w8 #[.string (bt y.k), .string y.v] 46 (i := 1) rfl)
                        have hnl := (List.getElem?_eq_some_iff.1 hy).1
                        have hnI : (n : Int) < R.length := by omega
                        have hn0 : decide ((n : Int) ≥ 0) = true := by simp
                        have hq1 : (y.k != y.k) = false := by simp
                        have hq2 : (y.v.toList != y.v.toList) = false := by simp
                        replace hy : Hid _ := ⟨hy⟩
                        clear hst8 hsk e0 e1
                        subst hLA
                        go_wp2_with fail
                        refine wp_region_lat (by kernel_rfl) (by kernel_rfl) ?_
                        repeat (go_big_quiet_step (fail))
                        refine wpQuiet_nil ?_
                        intro _ hw'
                        obtain ⟨p, hw''⟩ := hw'
                        subst hw''
                        have hfin2 : Hid _ := ⟨hfin.out _ p.h⟩
                        clear hfin kc0 kc1 kb0 kb1
                        go_wp2_with fail
                        exact ⟨⟨i + 1, tb, R, some ⟨g, 0, none⟩, rc, rfl, rfl, by go_num, by omega, by omega, by omega, hfin2⟩, by simp [intOf]; omega⟩
                · by_cases hk3 : x.kd = 3
                  · as_aux_lemma =>
                      have e1 : (x.kd == 1) = false := by simp; omega
                      have e2 : (x.kd == 2) = false := by simp; omega
                      have e3 : (x.kd == 3) = true := by simp; omega
                      clear hk1 hk2 hk3
                      have hpt := pl_copy hS2.out
                      replace hpt : Hid _ := ⟨hpt⟩
                      clear hsta hS2
                      go_wp2_with fail
                      refine hpt.out.mono ?_
                      rintro r w3 ⟨ub, rfl, hC3, hg3⟩
                      have f1 := grown_cell hg3 d1
                      have hrp := pl_cdrop hC3 x.ky (by omega)
                      replace hrp : Hid _ := ⟨hrp⟩
                      clear hpt hg3 hC3 d0 d1 d2
                      go_wp2_with fail
                      refine hrp.out.mono ?_
                      rintro r w4 ⟨⟨t1, t2, rfl⟩, hS4⟩
                      have hst : Hid (Sta W0 w4 ub L la lc) := ⟨hS4, hk40.out⟩
                      clear hrp hS4 f1 hnew hga hsz
                      have hRl : L.length ≤ 121 := by omega
                      obtain ⟨Q, hQ⟩ : ∃ Q, Hid ((sub L q.pf).take q.mo.toNat = Q) := ⟨_, ⟨rfl⟩⟩
                      have hQl : Q.length ≤ 10000 := by
                        have h1 := sub_le L q.pf
                        rw [← hQ.out, List.length_take]
                        omega
                      have hky : Hid (∀ y ∈ L, y.k.length ≤ 100000) := ⟨fun y hy => by have := hst.out.2 y hy; omega⟩
                      have p0 := grown_cell hst.out.1.g o0
                      have p1 := grown_cell hst.out.1.g o1
                      have p2 := grown_cell hst.out.1.g o2
                      have hwk : Hid (∀ w', w4.grownBy w' none → Calls Try.prog 19 #[ptr ub, .string (bt q.pf), .int .i64 q.mo] w' fun r w'' => ∃ a cap, r = .returned (.slice a Q.length cap) ∧ Rw 46 w'' (.slice a Q.length cap) Q ∧ w'.grownBy w'' none) := ⟨fun w' h' => pl_walk (hst.out.1.keep h') q.pf (by omega) q.mo hQ⟩
                      have hrw : Hid (∀ w', w4.grownBy w' none → Calls Try.prog 20 #[.slice la L.length lc, .string (bt q.pf), .int .i64 q.mo] w' fun r w'' => ∃ a cap, r = .returned (.slice a Q.length cap) ∧ Rw 33 w'' (.slice a Q.length cap) Q ∧ w'.grownBy w'' none) := ⟨fun w' h' => rwalk_any w' (Lc.of_row (hst.out.1.keep h').row) (by omega) hky.out q.pf (by omega) q.mo hQ⟩
                      go_upto_region 33 with fail
                      go_cut [16] from 39 to 202 (fun s wx => s = .bool true ∧ Hid (w4.grownBy wx none))
                      case first =>
                        go_wp2_with fail
                        refine wp_region_held_drew (S := fun w' => w'.cell? ⟨O, 0, none⟩ = some (.string (bt q.pf)) ∧ w'.cell? ⟨O, 1, none⟩ = some (.int .i64 q.mo)) (by kernel_rfl) (by (try dsimp only); exact ⟨p0, p1⟩) (fun hHeld => ?_)
                        refine wpAnyH_take (i := 0) (v := ?_) rfl (by kernel_rfl) (by kernel_rfl) (by kernel_rfl) (fun _ _ _ h => h) (Or.inl ⟨by rfl, ?_⟩) (by assumption) ?_
                        rotate_left
                        · (intro w hSw; (try dsimp only at hSw); go_simp; try with_reducible rfl)
                        try simp only [List.getElem_toArray, List.getElem_cons_zero, List.getElem_cons_succ, Act.put, List.setIfInBounds_toArray, List.set_cons_zero, List.set_cons_succ]
                        refine wpAnyH_take (i := 1) (v := ?_) rfl (by kernel_rfl) (by kernel_rfl) (by kernel_rfl) (fun _ _ _ h => h) (Or.inl ⟨by rfl, ?_⟩) (by assumption) ?_
                        rotate_left
                        · (intro w hSw; (try dsimp only at hSw); go_simp; try with_reducible rfl)
                        try simp only [List.getElem_toArray, List.getElem_cons_zero, List.getElem_cons_succ, Act.put, List.setIfInBounds_toArray, List.set_cons_zero, List.set_cons_succ]
                        refine wpAnyH_take (i := 2) (v := ?_) rfl (by kernel_rfl) (by kernel_rfl) (by kernel_rfl) (fun _ _ _ h => h) (Or.inl ⟨by rfl, ?_⟩) (by assumption) ?_
                        rotate_left
                        · (intro w hSw; (try dsimp only at hSw); go_simp; try with_reducible rfl)
                        try simp only [List.getElem_toArray, List.getElem_cons_zero, List.getElem_cons_succ, Act.put, List.setIfInBounds_toArray, List.set_cons_zero, List.set_cons_succ]
                        refine wpAnyH_take (i := 3) (v := ?_) rfl (by kernel_rfl) (by kernel_rfl) (by kernel_rfl) (fun _ _ _ h => h) (Or.inl ⟨by rfl, ?_⟩) (by assumption) ?_
                        rotate_left
                        · (intro w hSw; (try dsimp only at hSw); go_simp; try with_reducible rfl)
                        try simp only [List.getElem_toArray, List.getElem_cons_zero, List.getElem_cons_succ, Act.put, List.setIfInBounds_toArray, List.set_cons_zero, List.set_cons_succ]
                        refine wpAnyH_take (i := 4) (v := ?_) rfl (by kernel_rfl) (by kernel_rfl) (by kernel_rfl) (fun _ _ _ h => h) (Or.inl ⟨by rfl, ?_⟩) (by assumption) ?_
                        rotate_left
                        · (intro w hSw; (try dsimp only at hSw); go_simp; try with_reducible rfl)
                        try simp only [List.getElem_toArray, List.getElem_cons_zero, List.getElem_cons_succ, Act.put, List.setIfInBounds_toArray, List.set_cons_zero, List.set_cons_succ]
                        refine wpAnyH_take (i := 7) (v := ?_) rfl (by kernel_rfl) (by kernel_rfl) (by kernel_rfl) (fun _ _ _ h => h) (Or.inl ⟨by rfl, ?_⟩) (by assumption) ?_
                        rotate_left
                        · (intro w hSw; (try dsimp only at hSw); go_simp; try with_reducible rfl)
                        try simp only [List.getElem_toArray, List.getElem_cons_zero, List.getElem_cons_succ, Act.put, List.setIfInBounds_toArray, List.set_cons_zero, List.set_cons_succ]
                        refine wpAnyH_take (i := 8) (v := ?_) rfl (by kernel_rfl) (by kernel_rfl) (by kernel_rfl) (fun _ _ _ h => h) (Or.inl ⟨by rfl, ?_⟩) (by assumption) ?_
                        rotate_left
                        · (intro w hSw; (try dsimp only at hSw); go_simp; try with_reducible rfl)
                        try simp only [List.getElem_toArray, List.getElem_cons_zero, List.getElem_cons_succ, Act.put, List.setIfInBounds_toArray, List.set_cons_zero, List.set_cons_succ]
                        refine wpAnyH_take (i := 9) (v := ?_) rfl (by kernel_rfl) (by kernel_rfl) (by kernel_rfl) (fun _ _ _ h => h) (Or.inl ⟨by rfl, ?_⟩) (by assumption) ?_
                        rotate_left
                        · (intro w hSw; (try dsimp only at hSw); go_simp; try with_reducible rfl)
                        try simp only [List.getElem_toArray, List.getElem_cons_zero, List.getElem_cons_succ, Act.put, List.setIfInBounds_toArray, List.set_cons_zero, List.set_cons_succ]
                        refine wpAnyH_take (i := 10) (v := ?_) rfl (by kernel_rfl) (by kernel_rfl) (by kernel_rfl) (fun _ _ _ h => h) (Or.inl ⟨by rfl, ?_⟩) (by assumption) ?_
                        rotate_left
                        · (intro w hSw; (try dsimp only at hSw); go_simp; try with_reducible rfl)
                        try simp only [List.getElem_toArray, List.getElem_cons_zero, List.getElem_cons_succ, Act.put, List.setIfInBounds_toArray, List.set_cons_zero, List.set_cons_succ]
                        refine wpAnyH_take (i := 11) (v := ?_) rfl (by kernel_rfl) (by kernel_rfl) (by kernel_rfl) (fun _ _ _ h => h) (Or.inl ⟨by rfl, ?_⟩) (by assumption) ?_
                        rotate_left
                        · (intro w hSw; (try dsimp only at hSw); go_simp; try with_reducible rfl)
                        try simp only [List.getElem_toArray, List.getElem_cons_zero, List.getElem_cons_succ, Act.put, List.setIfInBounds_toArray, List.set_cons_zero, List.set_cons_succ]
                        refine wpAnyH_ready (rs := [5]) (by kernel_rfl) (by simp) ?_
                        refine AllReadyH.cons rfl (fun K hK => ?_) AllReadyH.nil
                        go_simp
                        refine (hwk.out _ (grown_drew _)).mono ?_
                        rintro r w6 ⟨a6, c6, rfl, hr6, hg6⟩
                        go_wp2_with fail
                        refine hK.out _ _ ?_ (fun hHeld => ?_)
                        · ((try dsimp only); exact ⟨grown_cell hg6 hHeld.1, grown_cell hg6 hHeld.2⟩)
                        clear hK K
                        try simp only [List.getElem_toArray, List.getElem_cons_zero, List.getElem_cons_succ, Act.put, List.setIfInBounds_toArray, List.set_cons_zero, List.set_cons_succ]
                        refine wpAnyH_ready (rs := [6]) (by kernel_rfl) (by simp) ?_
                        refine AllReadyH.cons rfl (fun K hK => ?_) AllReadyH.nil
                        go_simp
                        refine (told_any (hr6) hQl).mono ?_
                        rintro r w7 ⟨a7, c7, rfl, hr7, hg7⟩
                        go_wp2_with fail
                        refine hK.out _ _ ?_ (fun hHeld => ?_)
                        · ((try dsimp only); exact ⟨grown_cell hg7 hHeld.1, grown_cell hg7 hHeld.2⟩)
                        clear hK K
                        try simp only [List.getElem_toArray, List.getElem_cons_zero, List.getElem_cons_succ, Act.put, List.setIfInBounds_toArray, List.set_cons_zero, List.set_cons_succ]
                        refine wpAnyH_ready (rs := [12]) (by kernel_rfl) (by simp) ?_
                        refine AllReadyH.cons rfl (fun K hK => ?_) AllReadyH.nil
                        go_simp
                        refine (hrw.out _ (grown_none (grown_none (grown_drew _) hg6) hg7)).mono ?_
                        rintro r w8 ⟨a8, c8, rfl, hr8, hg8⟩
                        have sm := same_any (World.ownsRow.kept (rw33_p hr7) hg8 (Classical.em _)) hr8 (by omega)
                        go_wp2_with fail
                        refine hK.out _ _ ?_ (fun hHeld => ?_)
                        · ((try dsimp only); exact ⟨grown_cell hg8 hHeld.1, grown_cell hg8 hHeld.2⟩)
                        clear hK K
                        try simp only [List.getElem_toArray, List.getElem_cons_zero, List.getElem_cons_succ, Act.put, List.setIfInBounds_toArray, List.set_cons_zero, List.set_cons_succ]
                        refine wpAnyH_ready (rs := [13]) (by kernel_rfl) (by simp) ?_
                        refine AllReadyH.cons rfl (fun K hK => ?_) AllReadyH.nil
                        go_simp
                        refine sm.mono ?_
                        rintro r w9 ⟨rfl, hg9⟩
                        go_wp2_with fail
                        refine hK.out _ _ ?_ (fun hHeld => ?_)
                        · ((try dsimp only); exact ⟨grown_cell hg9 hHeld.1, grown_cell hg9 hHeld.2⟩)
                        clear hK K
                        try simp only [List.getElem_toArray, List.getElem_cons_zero, List.getElem_cons_succ, Act.put, List.setIfInBounds_toArray, List.set_cons_zero, List.set_cons_succ]
                        refine wpAnyH_take (i := 14) (v := ?_) rfl (by kernel_rfl) (by kernel_rfl) (by kernel_rfl) (fun _ _ _ h => h) (Or.inl ⟨by rfl, ?_⟩) (by assumption) ?_
                        rotate_left
                        · (intro w hSw; (try dsimp only at hSw); go_simp; try with_reducible rfl)
                        try simp only [List.getElem_toArray, List.getElem_cons_zero, List.getElem_cons_succ, Act.put, List.setIfInBounds_toArray, List.set_cons_zero, List.set_cons_succ]
                        refine wpAnyH_done (by kernel_rfl) ?_ _
                        go_wp2_with fail
                        go_meet
                        case rel => exact ⟨rfl, ⟨(grown_none (grown_none (grown_none (grown_none (grown_drew _) hg6) hg7) hg8) hg9)⟩⟩
                      case rest =>
                        obtain ⟨rfl, hgc⟩ := hcut
                        obtain ⟨z, hz⟩ : ∃ z, Hid (nds L = z) := ⟨_, ⟨rfl⟩⟩
                        have hst5 := hst.out.1.keep hgc.out
                        have hln := pl_len hst5
                        have hnd := pl_nodes hst5 hz
                        have hrn := rnodes_any wc (Lc.of_row hst5.row) (by omega) hky.out hz
                        have p2 := grown_cell hgc.out p2
                        have hsk := hst.out.2
                        have hne1 : ((L.length : Int) != L.length) = false := by simp
                        have hne2 : ((z : Int) != z) = false := by simp
                        replace hsk : Hid _ := ⟨hsk⟩
                        replace hst5 : Hid _ := ⟨hst5⟩
                        replace hln : Hid _ := ⟨hln⟩
                        replace hnd : Hid _ := ⟨hnd⟩
                        replace hrn : Hid _ := ⟨hrn⟩
                        clear hst hwk hrw p0 p1 hQ hQl hgc hd1 hd2
                        go_wp2_with fail
                        refine hln.out.mono ?_
                        rintro r w9 ⟨rfl, rfl⟩
                        go_wp2_with fail
                        refine hnd.out.mono ?_
                        rintro r w9 ⟨rfl, rfl⟩
                        go_wp2_with fail
                        refine hrn.out.mono ?_
                        rintro r w6 ⟨rfl, hg6⟩
                        have hst6 := hst5.out.keep hg6
                        have p2 := grown_cell hg6 p2
                        have hrl := rlong_any w6 (Lc.of_row hst6.row) (by omega) hky.out q.ky (by omega)
                        replace hst6 : Hid _ := ⟨hst6⟩
                        replace hrl : Hid _ := ⟨hrl⟩
                        clear hln hnd hrn hst5 hg6
                        go_wp2_with fail
                        refine hrl.out.mono ?_
                        rintro r w7 ⟨dl, rfl, hLg, hg7⟩
                        have hst7 := hst6.out.keep hg7
                        have p2 := grown_cell hg7 p2
                        have hlo := pl_longest hst7 q.ky (by omega)
                        replace hst7 : Hid _ := ⟨hst7⟩
                        replace hlo : Hid _ := ⟨hlo⟩
                        replace hLg : Hid _ := ⟨hLg⟩
                        clear hrl hst6 hg7
                        go_wp2_with fail
                        refine hlo.out.mono ?_
                        rintro r w8 ⟨ol, hIo, rfl, hg8⟩
                        have hsm := lng_same hst7.out.srt hLg.out hIo
                        have hst8 := hst7.out.keep hg8
                        replace hst8 : Hid _ := ⟨hst8⟩
                        clear hlo hIo hLg hst7 hg8 p2
                        rcases hsm with ⟨rfl, rfl⟩ | ⟨n, y, rfl, rfl, hy⟩
                        · have hek : ek none = [] := rfl
                          have hev : ev none = bt [] := rfl
                          have hso : (none : Option E).isSome = false := rfl
                          rw [hek, hev, hso]
                          have hfin : Hid (∀ w', (w8.alloc (.cells #[.string (bt []), .string (bt [])] 46)).grownBy w' none → Sta W0 w' ub L la lc) := ⟨fun w' h' => ⟨((hst8.out.keep (World.grownBy_alloc w8 _ none)).keep h').full, hsk.out⟩⟩
                          haveI := lat_nonempty (w8.alloc (.cells #[.string (bt []), .string (bt [])] 46))
                          clear hst8 hsk
                          go_wp2_with fail
                          refine wp_region_lat (by kernel_rfl) (by kernel_rfl) ?_
                          repeat (go_big_quiet_step (fail))
                          refine wpQuiet_nil ?_
                          intro _ hw'
                          obtain ⟨p, hw''⟩ := hw'
                          subst hw''
                          have hfin2 : Hid _ := ⟨hfin.out _ p.h⟩
                          clear hfin
                          go_wp2_with fail
                          exact ⟨⟨i + 1, ub, L, la, lc, rfl, rfl, by go_num, by omega, by omega, by omega, hfin2⟩, by simp [intOf]; omega⟩
                        · have hek : ek (some y) = y.k := rfl
                          have hev : ev (some y) = y.v := rfl
                          have hso : (some y).isSome = true := rfl
                          rw [hek, hev, hso]
                          have hfin : Hid (∀ w', (w8.alloc (.cells #[.string (bt y.k), .string y.v] 46)).grownBy w' none → Sta W0 w' ub L la lc) := ⟨fun w' h' => ⟨((hst8.out.keep (World.grownBy_alloc w8 _ none)).keep h').full, hsk.out⟩⟩
                          haveI := lat_nonempty (w8.alloc (.cells #[.string (bt y.k), .string y.v] 46))
                          obtain ⟨g, hLA, hgl, -, e0, e1, -⟩ := (hst8.out.keep (World.grownBy_alloc w8 (.cells #[.string (bt y.k), .string y.v] 46) none)).row.at hy
                          have kc0 := lat_cell e0
                          have kc1 := lat_cell e1
                          have kb0 := lat_cell (show (w8.alloc (.cells #[.string (bt y.k), .string y.v] 46)).cell? ⟨w8.heap.size, 0, none⟩ = some (.string (bt y.k)) from cell_new w8 #[.string (bt y.k), .string y.v] 46 (i := 0) rfl)
                          have kb1 := lat_cell (show (w8.alloc (.cells #[.string (bt y.k), .string y.v] 46)).cell? ⟨w8.heap.size, 1, none⟩ = some (.string y.v) from cell_new w8 #[.string (bt y.k), .string y.v] 46 (i := 1) rfl)
                          have hnl := (List.getElem?_eq_some_iff.1 hy).1
                          have hnI : (n : Int) < L.length := by omega
                          have hn0 : decide ((n : Int) ≥ 0) = true := by simp
                          have hq1 : (y.k != y.k) = false := by simp
                          have hq2 : (y.v.toList != y.v.toList) = false := by simp
                          replace hy : Hid _ := ⟨hy⟩
                          clear hst8 hsk e0 e1
                          subst hLA
                          go_wp2_with fail
                          refine wp_region_lat (by kernel_rfl) (by kernel_rfl) ?_
                          repeat (go_big_quiet_step (fail))
                          refine wpQuiet_nil ?_
                          intro _ hw'
                          obtain ⟨p, hw''⟩ := hw'
                          subst hw''
                          have hfin2 : Hid _ := ⟨hfin.out _ p.h⟩
                          clear hfin kc0 kc1 kb0 kb1
                          go_wp2_with fail
                          exact ⟨⟨i + 1, ub, L, some ⟨g, 0, none⟩, lc, rfl, rfl, by go_num, by omega, by omega, by omega, hfin2⟩, by simp [intOf]; omega⟩
                  · as_aux_lemma =>
                      have e1 : (x.kd == 1) = false := by simp; omega
                      have e2 : (x.kd == 2) = false := by simp; omega
                      have e3 : (x.kd == 3) = false := by simp; omega
                      clear hk1 hk2 hk3
                      have hst : Hid (Sta W0 w5 tb L la lc) := hsta
                      clear hsta hS2 hnew hga hsz
                      have hRl : L.length ≤ 121 := by omega
                      obtain ⟨Q, hQ⟩ : ∃ Q, Hid ((sub L q.pf).take q.mo.toNat = Q) := ⟨_, ⟨rfl⟩⟩
                      have hQl : Q.length ≤ 10000 := by
                        have h1 := sub_le L q.pf
                        rw [← hQ.out, List.length_take]
                        omega
                      have hky : Hid (∀ y ∈ L, y.k.length ≤ 100000) := ⟨fun y hy => by have := hst.out.2 y hy; omega⟩
                      have p0 := grown_cell hst.out.1.g o0
                      have p1 := grown_cell hst.out.1.g o1
                      have p2 := grown_cell hst.out.1.g o2
                      have hwk : Hid (∀ w', w5.grownBy w' none → Calls Try.prog 19 #[ptr tb, .string (bt q.pf), .int .i64 q.mo] w' fun r w'' => ∃ a cap, r = .returned (.slice a Q.length cap) ∧ Rw 46 w'' (.slice a Q.length cap) Q ∧ w'.grownBy w'' none) := ⟨fun w' h' => pl_walk (hst.out.1.keep h') q.pf (by omega) q.mo hQ⟩
                      have hrw : Hid (∀ w', w5.grownBy w' none → Calls Try.prog 20 #[.slice la L.length lc, .string (bt q.pf), .int .i64 q.mo] w' fun r w'' => ∃ a cap, r = .returned (.slice a Q.length cap) ∧ Rw 33 w'' (.slice a Q.length cap) Q ∧ w'.grownBy w'' none) := ⟨fun w' h' => rwalk_any w' (Lc.of_row (hst.out.1.keep h').row) (by omega) hky.out q.pf (by omega) q.mo hQ⟩
                      go_upto_region 33 with fail
                      go_cut [16] from 39 to 202 (fun s wx => s = .bool true ∧ Hid (w5.grownBy wx none))
                      case first =>
                        go_wp2_with fail
                        refine wp_region_held_drew (S := fun w' => w'.cell? ⟨O, 0, none⟩ = some (.string (bt q.pf)) ∧ w'.cell? ⟨O, 1, none⟩ = some (.int .i64 q.mo)) (by kernel_rfl) (by (try dsimp only); exact ⟨p0, p1⟩) (fun hHeld => ?_)
                        refine wpAnyH_take (i := 0) (v := ?_) rfl (by kernel_rfl) (by kernel_rfl) (by kernel_rfl) (fun _ _ _ h => h) (Or.inl ⟨by rfl, ?_⟩) (by assumption) ?_
                        rotate_left
                        · (intro w hSw; (try dsimp only at hSw); go_simp; try with_reducible rfl)
                        try simp only [List.getElem_toArray, List.getElem_cons_zero, List.getElem_cons_succ, Act.put, List.setIfInBounds_toArray, List.set_cons_zero, List.set_cons_succ]
                        refine wpAnyH_take (i := 1) (v := ?_) rfl (by kernel_rfl) (by kernel_rfl) (by kernel_rfl) (fun _ _ _ h => h) (Or.inl ⟨by rfl, ?_⟩) (by assumption) ?_
                        rotate_left
                        · (intro w hSw; (try dsimp only at hSw); go_simp; try with_reducible rfl)
                        try simp only [List.getElem_toArray, List.getElem_cons_zero, List.getElem_cons_succ, Act.put, List.setIfInBounds_toArray, List.set_cons_zero, List.set_cons_succ]
                        refine wpAnyH_take (i := 2) (v := ?_) rfl (by kernel_rfl) (by kernel_rfl) (by kernel_rfl) (fun _ _ _ h => h) (Or.inl ⟨by rfl, ?_⟩) (by assumption) ?_
                        rotate_left
                        · (intro w hSw; (try dsimp only at hSw); go_simp; try with_reducible rfl)
                        try simp only [List.getElem_toArray, List.getElem_cons_zero, List.getElem_cons_succ, Act.put, List.setIfInBounds_toArray, List.set_cons_zero, List.set_cons_succ]
                        refine wpAnyH_take (i := 3) (v := ?_) rfl (by kernel_rfl) (by kernel_rfl) (by kernel_rfl) (fun _ _ _ h => h) (Or.inl ⟨by rfl, ?_⟩) (by assumption) ?_
                        rotate_left
                        · (intro w hSw; (try dsimp only at hSw); go_simp; try with_reducible rfl)
                        try simp only [List.getElem_toArray, List.getElem_cons_zero, List.getElem_cons_succ, Act.put, List.setIfInBounds_toArray, List.set_cons_zero, List.set_cons_succ]
                        refine wpAnyH_take (i := 4) (v := ?_) rfl (by kernel_rfl) (by kernel_rfl) (by kernel_rfl) (fun _ _ _ h => h) (Or.inl ⟨by rfl, ?_⟩) (by assumption) ?_
                        rotate_left
                        · (intro w hSw; (try dsimp only at hSw); go_simp; try with_reducible rfl)
                        try simp only [List.getElem_toArray, List.getElem_cons_zero, List.getElem_cons_succ, Act.put, List.setIfInBounds_toArray, List.set_cons_zero, List.set_cons_succ]
                        refine wpAnyH_take (i := 7) (v := ?_) rfl (by kernel_rfl) (by kernel_rfl) (by kernel_rfl) (fun _ _ _ h => h) (Or.inl ⟨by rfl, ?_⟩) (by assumption) ?_
                        rotate_left
                        · (intro w hSw; (try dsimp only at hSw); go_simp; try with_reducible rfl)
                        try simp only [List.getElem_toArray, List.getElem_cons_zero, List.getElem_cons_succ, Act.put, List.setIfInBounds_toArray, List.set_cons_zero, List.set_cons_succ]
                        refine wpAnyH_take (i := 8) (v := ?_) rfl (by kernel_rfl) (by kernel_rfl) (by kernel_rfl) (fun _ _ _ h => h) (Or.inl ⟨by rfl, ?_⟩) (by assumption) ?_
                        rotate_left
                        · (intro w hSw; (try dsimp only at hSw); go_simp; try with_reducible rfl)
                        try simp only [List.getElem_toArray, List.getElem_cons_zero, List.getElem_cons_succ, Act.put, List.setIfInBounds_toArray, List.set_cons_zero, List.set_cons_succ]
                        refine wpAnyH_take (i := 9) (v := ?_) rfl (by kernel_rfl) (by kernel_rfl) (by kernel_rfl) (fun _ _ _ h => h) (Or.inl ⟨by rfl, ?_⟩) (by assumption) ?_
                        rotate_left
                        · (intro w hSw; (try dsimp only at hSw); go_simp; try with_reducible rfl)
                        try simp only [List.getElem_toArray, List.getElem_cons_zero, List.getElem_cons_succ, Act.put, List.setIfInBounds_toArray, List.set_cons_zero, List.set_cons_succ]
                        refine wpAnyH_take (i := 10) (v := ?_) rfl (by kernel_rfl) (by kernel_rfl) (by kernel_rfl) (fun _ _ _ h => h) (Or.inl ⟨by rfl, ?_⟩) (by assumption) ?_
                        rotate_left
                        · (intro w hSw; (try dsimp only at hSw); go_simp; try with_reducible rfl)
                        try simp only [List.getElem_toArray, List.getElem_cons_zero, List.getElem_cons_succ, Act.put, List.setIfInBounds_toArray, List.set_cons_zero, List.set_cons_succ]
                        refine wpAnyH_take (i := 11) (v := ?_) rfl (by kernel_rfl) (by kernel_rfl) (by kernel_rfl) (fun _ _ _ h => h) (Or.inl ⟨by rfl, ?_⟩) (by assumption) ?_
                        rotate_left
                        · (intro w hSw; (try dsimp only at hSw); go_simp; try with_reducible rfl)
                        try simp only [List.getElem_toArray, List.getElem_cons_zero, List.getElem_cons_succ, Act.put, List.setIfInBounds_toArray, List.set_cons_zero, List.set_cons_succ]
                        refine wpAnyH_ready (rs := [5]) (by kernel_rfl) (by simp) ?_
                        refine AllReadyH.cons rfl (fun K hK => ?_) AllReadyH.nil
                        go_simp
                        refine (hwk.out _ (grown_drew _)).mono ?_
                        rintro r w6 ⟨a6, c6, rfl, hr6, hg6⟩
                        go_wp2_with fail
                        refine hK.out _ _ ?_ (fun hHeld => ?_)
                        · ((try dsimp only); exact ⟨grown_cell hg6 hHeld.1, grown_cell hg6 hHeld.2⟩)
                        clear hK K
                        try simp only [List.getElem_toArray, List.getElem_cons_zero, List.getElem_cons_succ, Act.put, List.setIfInBounds_toArray, List.set_cons_zero, List.set_cons_succ]
                        refine wpAnyH_ready (rs := [6]) (by kernel_rfl) (by simp) ?_
                        refine AllReadyH.cons rfl (fun K hK => ?_) AllReadyH.nil
                        go_simp
                        refine (told_any (hr6) hQl).mono ?_
                        rintro r w7 ⟨a7, c7, rfl, hr7, hg7⟩
                        go_wp2_with fail
                        refine hK.out _ _ ?_ (fun hHeld => ?_)
                        · ((try dsimp only); exact ⟨grown_cell hg7 hHeld.1, grown_cell hg7 hHeld.2⟩)
                        clear hK K
                        try simp only [List.getElem_toArray, List.getElem_cons_zero, List.getElem_cons_succ, Act.put, List.setIfInBounds_toArray, List.set_cons_zero, List.set_cons_succ]
                        refine wpAnyH_ready (rs := [12]) (by kernel_rfl) (by simp) ?_
                        refine AllReadyH.cons rfl (fun K hK => ?_) AllReadyH.nil
                        go_simp
                        refine (hrw.out _ (grown_none (grown_none (grown_drew _) hg6) hg7)).mono ?_
                        rintro r w8 ⟨a8, c8, rfl, hr8, hg8⟩
                        have sm := same_any (World.ownsRow.kept (rw33_p hr7) hg8 (Classical.em _)) hr8 (by omega)
                        go_wp2_with fail
                        refine hK.out _ _ ?_ (fun hHeld => ?_)
                        · ((try dsimp only); exact ⟨grown_cell hg8 hHeld.1, grown_cell hg8 hHeld.2⟩)
                        clear hK K
                        try simp only [List.getElem_toArray, List.getElem_cons_zero, List.getElem_cons_succ, Act.put, List.setIfInBounds_toArray, List.set_cons_zero, List.set_cons_succ]
                        refine wpAnyH_ready (rs := [13]) (by kernel_rfl) (by simp) ?_
                        refine AllReadyH.cons rfl (fun K hK => ?_) AllReadyH.nil
                        go_simp
                        refine sm.mono ?_
                        rintro r w9 ⟨rfl, hg9⟩
                        go_wp2_with fail
                        refine hK.out _ _ ?_ (fun hHeld => ?_)
                        · ((try dsimp only); exact ⟨grown_cell hg9 hHeld.1, grown_cell hg9 hHeld.2⟩)
                        clear hK K
                        try simp only [List.getElem_toArray, List.getElem_cons_zero, List.getElem_cons_succ, Act.put, List.setIfInBounds_toArray, List.set_cons_zero, List.set_cons_succ]
                        refine wpAnyH_take (i := 14) (v := ?_) rfl (by kernel_rfl) (by kernel_rfl) (by kernel_rfl) (fun _ _ _ h => h) (Or.inl ⟨by rfl, ?_⟩) (by assumption) ?_
                        rotate_left
                        · (intro w hSw; (try dsimp only at hSw); go_simp; try with_reducible rfl)
                        try simp only [List.getElem_toArray, List.getElem_cons_zero, List.getElem_cons_succ, Act.put, List.setIfInBounds_toArray, List.set_cons_zero, List.set_cons_succ]
                        refine wpAnyH_done (by kernel_rfl) ?_ _
                        go_wp2_with fail
                        go_meet
                        case rel => exact ⟨rfl, ⟨(grown_none (grown_none (grown_none (grown_none (grown_drew _) hg6) hg7) hg8) hg9)⟩⟩
                      case rest =>
                        obtain ⟨rfl, hgc⟩ := hcut
                        obtain ⟨z, hz⟩ : ∃ z, Hid (nds L = z) := ⟨_, ⟨rfl⟩⟩
                        have hst5 := hst.out.1.keep hgc.out
                        have hln := pl_len hst5
                        have hnd := pl_nodes hst5 hz
                        have hrn := rnodes_any wc (Lc.of_row hst5.row) (by omega) hky.out hz
                        have p2 := grown_cell hgc.out p2
                        have hsk := hst.out.2
                        have hne1 : ((L.length : Int) != L.length) = false := by simp
                        have hne2 : ((z : Int) != z) = false := by simp
                        replace hsk : Hid _ := ⟨hsk⟩
                        replace hst5 : Hid _ := ⟨hst5⟩
                        replace hln : Hid _ := ⟨hln⟩
                        replace hnd : Hid _ := ⟨hnd⟩
                        replace hrn : Hid _ := ⟨hrn⟩
                        clear hst hwk hrw p0 p1 hQ hQl hgc hd1 hd2
                        go_wp2_with fail
                        refine hln.out.mono ?_
                        rintro r w9 ⟨rfl, rfl⟩
                        go_wp2_with fail
                        refine hnd.out.mono ?_
                        rintro r w9 ⟨rfl, rfl⟩
                        go_wp2_with fail
                        refine hrn.out.mono ?_
                        rintro r w6 ⟨rfl, hg6⟩
                        have hst6 := hst5.out.keep hg6
                        have p2 := grown_cell hg6 p2
                        have hrl := rlong_any w6 (Lc.of_row hst6.row) (by omega) hky.out q.ky (by omega)
                        replace hst6 : Hid _ := ⟨hst6⟩
                        replace hrl : Hid _ := ⟨hrl⟩
                        clear hln hnd hrn hst5 hg6
                        go_wp2_with fail
                        refine hrl.out.mono ?_
                        rintro r w7 ⟨dl, rfl, hLg, hg7⟩
                        have hst7 := hst6.out.keep hg7
                        have p2 := grown_cell hg7 p2
                        have hlo := pl_longest hst7 q.ky (by omega)
                        replace hst7 : Hid _ := ⟨hst7⟩
                        replace hlo : Hid _ := ⟨hlo⟩
                        replace hLg : Hid _ := ⟨hLg⟩
                        clear hrl hst6 hg7
                        go_wp2_with fail
                        refine hlo.out.mono ?_
                        rintro r w8 ⟨ol, hIo, rfl, hg8⟩
                        have hsm := lng_same hst7.out.srt hLg.out hIo
                        have hst8 := hst7.out.keep hg8
                        replace hst8 : Hid _ := ⟨hst8⟩
                        clear hlo hIo hLg hst7 hg8 p2
                        rcases hsm with ⟨rfl, rfl⟩ | ⟨n, y, rfl, rfl, hy⟩
                        · have hek : ek none = [] := rfl
                          have hev : ev none = bt [] := rfl
                          have hso : (none : Option E).isSome = false := rfl
                          rw [hek, hev, hso]
                          have hfin : Hid (∀ w', (w8.alloc (.cells #[.string (bt []), .string (bt [])] 46)).grownBy w' none → Sta W0 w' tb L la lc) := ⟨fun w' h' => ⟨((hst8.out.keep (World.grownBy_alloc w8 _ none)).keep h').full, hsk.out⟩⟩
                          haveI := lat_nonempty (w8.alloc (.cells #[.string (bt []), .string (bt [])] 46))
                          clear hst8 hsk
                          go_wp2_with fail
                          refine wp_region_lat (by kernel_rfl) (by kernel_rfl) ?_
                          repeat (go_big_quiet_step (fail))
                          refine wpQuiet_nil ?_
                          intro _ hw'
                          obtain ⟨p, hw''⟩ := hw'
                          subst hw''
                          have hfin2 : Hid _ := ⟨hfin.out _ p.h⟩
                          clear hfin
                          go_wp2_with fail
                          exact ⟨⟨i + 1, tb, L, la, lc, rfl, rfl, by go_num, by omega, by omega, by omega, hfin2⟩, by simp [intOf]; omega⟩
                        · have hek : ek (some y) = y.k := rfl
                          have hev : ev (some y) = y.v := rfl
                          have hso : (some y).isSome = true := rfl
                          rw [hek, hev, hso]
                          have hfin : Hid (∀ w', (w8.alloc (.cells #[.string (bt y.k), .string y.v] 46)).grownBy w' none → Sta W0 w' tb L la lc) := ⟨fun w' h' => ⟨((hst8.out.keep (World.grownBy_alloc w8 _ none)).keep h').full, hsk.out⟩⟩
                          haveI := lat_nonempty (w8.alloc (.cells #[.string (bt y.k), .string y.v] 46))
                          obtain ⟨g, hLA, hgl, -, e0, e1, -⟩ := (hst8.out.keep (World.grownBy_alloc w8 (.cells #[.string (bt y.k), .string y.v] 46) none)).row.at hy
                          have kc0 := lat_cell e0
                          have kc1 := lat_cell e1
                          have kb0 := lat_cell (show (w8.alloc (.cells #[.string (bt y.k), .string y.v] 46)).cell? ⟨w8.heap.size, 0, none⟩ = some (.string (bt y.k)) from cell_new w8 #[.string (bt y.k), .string y.v] 46 (i := 0) rfl)
                          have kb1 := lat_cell (show (w8.alloc (.cells #[.string (bt y.k), .string y.v] 46)).cell? ⟨w8.heap.size, 1, none⟩ = some (.string y.v) from cell_new w8 #[.string (bt y.k), .string y.v] 46 (i := 1) rfl)
                          have hnl := (List.getElem?_eq_some_iff.1 hy).1
                          have hnI : (n : Int) < L.length := by omega
                          have hn0 : decide ((n : Int) ≥ 0) = true := by simp
                          have hq1 : (y.k != y.k) = false := by simp
                          have hq2 : (y.v.toList != y.v.toList) = false := by simp
                          replace hy : Hid _ := ⟨hy⟩
                          clear hst8 hsk e0 e1
                          subst hLA
                          go_wp2_with fail
                          refine wp_region_lat (by kernel_rfl) (by kernel_rfl) ?_
                          repeat (go_big_quiet_step (fail))
                          refine wpQuiet_nil ?_
                          intro _ hw'
                          obtain ⟨p, hw''⟩ := hw'
                          subst hw''
                          have hfin2 : Hid _ := ⟨hfin.out _ p.h⟩
                          clear hfin kc0 kc1 kb0 kb1
                          go_wp2_with fail
                          exact ⟨⟨i + 1, tb, L, some ⟨g, 0, none⟩, lc, rfl, rfl, by go_num, by omega, by omega, by omega, hfin2⟩, by simp [intOf]; omega⟩
          · have evl : decide ((x.vl.size : Int) ≤ 40) = false := by simp; omega
            go_wp2_with fail
            exact ⟨⟨i + 1, tb, L, la, lc, rfl, rfl, by go_num, by omega, by omega, by omega, hsta⟩, by simp [intOf]; omega⟩
        · have eky : decide ((x.ky.length : Int) ≤ 40) = false := by simp; omega
          go_wp2_with fail
          exact ⟨⟨i + 1, tb, L, la, lc, rfl, rfl, by go_num, by omega, by omega, by omega, hsta⟩, by simp [intOf]; omega⟩
      · have hd : decide ((i : Int) < xs.length) = false ∨ (decide ((i : Int) < xs.length) = true ∧ decide ((i : Int) < 120) = false) := by
          by_cases h : i < xs.length
          · exact .inr ⟨by simp; omega, by simp; omega⟩
          · exact .inl (by simp; omega)
        have hL120 : L.length ≤ 120 := by omega
        have hst : Hid (Sta W0 wr tb L la lc) := hS
        clear hS hLl
        rcases hd with hd | ⟨hd, hd2⟩
        all_goals
          (go_wp2_with fail)
        all_goals
          (go_loopw [20] (fun iv wr => ∃ j : Nat, iv = .int .i64 j ∧ j ≤ L.length ∧ Hid (Sta W0 wr tb L la lc))
             (fun iv _ => L.length - (intOf iv).toNat)
           case atStart => exact ⟨0, rfl, by omega, hst⟩
           case round =>
             clear hst
             obtain ⟨j, rfl, hj, hS⟩ := hrel
             by_cases hlt : j < L.length
             · have hdj : decide ((j : Int) < L.length) = true := by simp; omega
               obtain ⟨y, hy⟩ := some_at hlt
               have hyk := hS.out.2 y (List.mem_of_getElem? hy)
               have hget := pl_get hS.out.1 y.k (by omega) ⟨hS.out.1.srt.gt (List.mem_of_getElem? hy)⟩
               have hvo : vOf (some y.v) = y.v := rfl
               have hso : (some y.v).isSome = true := rfl
               rw [hvo, hso] at hget
               obtain ⟨g, rfl, hgl, -, e0, e1, -⟩ := hS.out.1.row.at hy
               have hq2 : (y.v.toList != y.v.toList) = false := by simp
               have hjI : (j : Int) < L.length := by omega
               replace hget : Hid _ := ⟨hget⟩
               replace hy : Hid _ := ⟨hy⟩
               clear hvo hso
               go_wp2_with fail
               refine hget.out.mono ?_
               rintro r w5 ⟨rfl, hg5⟩
               have e0 := grown_cell hg5 e0
               have e1 := grown_cell hg5 e1
               have hS5 : Hid (Sta W0 w5 tb L (some ⟨g, 0, none⟩) lc) := ⟨(hS.out.1.keep hg5).full, hS.out.2⟩
               clear hget hg5 hS
               go_wp2_with fail
               exact ⟨⟨j + 1, by go_num, by omega, hS5⟩, by simp [intOf] <;> omega⟩
             · have hdj : decide ((j : Int) < L.length) = false := by simp; omega
               have hdn : decide (j < L.length) = false := by simp; omega
               obtain ⟨o, ho⟩ : ∃ o, Hid (gt L q.ky = o) := ⟨_, ⟨rfl⟩⟩
               have hget := pl_get hS.out.1 q.ky (by omega) ho
               have p2 := grown_cell hS.out.1.g o2
               replace hget : Hid _ := ⟨hget⟩
               go_wp2_with fail
               refine hget.out.mono ?_
               rintro r w5 ⟨rfl, hg5⟩
               have p2 := grown_cell hg5 p2
               have hS5 := hS.out.1.keep hg5
               replace hS5 : Hid _ := ⟨hS5⟩
               clear hget hg5 hS
               go_wp2_with fail
               refine (alive_any _).mono ?_
               rintro r w6 ⟨rfl, hg6⟩
               have p2 := grown_cell hg6 p2
               have hS6 := hS5.out.keep hg6
               have hfd := find_any _ (Lc.of_row hS6.row) (by omega) q.ky
               replace hfd : Hid _ := ⟨hfd⟩
               replace hS6 : Hid _ := ⟨hS6⟩
               clear hS5 hg6
               go_wp2_with fail
               refine hfd.out.mono ?_
               rintro r w7 ⟨d, rfl, hF, rfl⟩
               have hdd := fnd_dec hS6.out.srt hF ho.out
               have hdd2 : decide (0 ≤ d) = o.isSome := hdd
               have hbb : (o.isSome == o.isSome) = true := by simp
               have hfin : Hid (Below W.heap.size W w7) := ⟨below_of (grown_none gW.out hS6.out.g)⟩
               clear hfd hF hS6
               go_wp2_with fail
               go_ret
               exact ⟨by first | rfl | (rw [hdd]; simp) | simp, hfin.out⟩)
  · have hSg := hS0.out.1.g
    clear hS0
    by_cases hp40 : q.pf.length ≤ 40
    · have dp : decide ((q.pf.length : Int) > 40) = false := by simp; omega
      have dp' : (q.pf.length : Int) ≤ 40 := by omega
      have dk : decide ((q.ky.length : Int) > 40) = true := by simp; omega
      have dk' : ¬ (q.ky.length : Int) ≤ 40 := by omega
      go_wp2_with fail
      refine (alive_any w1).mono ?_
      rintro r w5 ⟨rfl, hg5⟩
      have hfin : Hid (Below W.heap.size W w5) := ⟨below_of (grown_none gW.out (grown_none hSg hg5))⟩
      clear hg5 hSg
      go_wp2_with fail
      go_ret
      exact ⟨rfl, hfin.out⟩
    · have dp : decide ((q.pf.length : Int) > 40) = true := by simp; omega
      have dp' : ¬ (q.pf.length : Int) ≤ 40 := by omega
      go_wp2_with fail
      refine (alive_any w1).mono ?_
      rintro r w5 ⟨rfl, hg5⟩
      have hfin : Hid (Below W.heap.size W w5) := ⟨below_of (grown_none gW.out (grown_none hSg hg5))⟩
      clear hg5 hSg
      go_wp2_with fail
      go_ret
      exact ⟨rfl, hfin.out⟩
theorem plays_law (v : Value) (xs : List Ac) (q : Oq) (W : World) (ha : Acs W.heap.size W v xs) (hq : q.ok) :
    Calls Try.prog 3 #[v, .agg #[.string (bt q.pf), .int .i64 q.mo, .string (bt q.ky)]] W fun e W' => e = .returned (.bool true) ∧ Below W.heap.size W W' := by
  obtain ⟨a, cap, rfl, hl⟩ := ha.shape
  exact plays_walk a cap xs q W ha hq hl
end Go.Proofs.Ytpcdmjalfabbmaa
