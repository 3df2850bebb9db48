/- A draft carried out. -/
import Derived.Test.YtmahpceokpajgaaDoorDad
import Derived.Deep.RegionHeld3
namespace Go.Proofs.YtmahpceokpajgaaDoor
open Go.RowKit Go.IntWalk Go.Maps Go.Shelf
set_option linter.unusedVariables false
/-- One write. -/
def wrOne (L : List E) (x : Wr) : List E := if x.is then putE ⟨x.ky, x.vl⟩ L else delE x.ky L
/-- All writes. -/
def wrAll (L : List E) (ws : List Wr) : List E := ws.foldl wrOne L
theorem wrAll_snoc (L : List E) (ws : List Wr) (x : Wr) : wrAll L (ws ++ [x]) = wrOne (wrAll L ws) x := by simp [wrAll]
theorem own_kept {t : TypeId} {k base : Nat} {w w' : World} {v : Value} {n : Nat} {l : List Value} (h : w.ownsRow base t k v n l) (hb : ∀ g, base ≤ g → g < w.heap.size → w'.heap[g]? = w.heap[g]?) : w'.ownsRow base t k v n l :=
  ⟨h.1, h.2.imp id fun ⟨g, c, cur, e, hge, hg, rest⟩ => ⟨g, c, cur, e, hge, (hb g hge (Array.getElem?_eq_some_iff.1 hg).1).trans hg, rest⟩⟩
theorem Dft.kp {n₀ db tb : Nat} {w w' : World} {wv cv : Value} {ws : List Wr} {cs : List K} {S : Nat → Prop} (h : Dft n₀ w db tb wv cv ws cs) (hk : Kp S w w') (hS : ∀ j, S j → j < n₀) : Dft n₀ w' db tb wv cv ws cs := by
  have hge := h.ge
  have hb : ∀ g, db + 2 ≤ g → g < w.heap.size → w'.heap[g]? = w.heap[g]? := fun g h1 h2 => hk.block g h2 fun e => by have := hS g e; omega
  exact ⟨hge, Nat.le_trans h.sz hk.size, (hk.block db h.lt fun e => by have := hS db e; omega).trans h.blk, own_kept h.rw hb, own_kept h.rc hb, h.ne⟩
/-- The trie beside a draft, some writes of which are done. -/
def Cod (S : Nat → Prop) (w wr : World) (tb n : Nat) (L : List E) : Prop := (∃ S' : Nat → Prop, Tri S' wr tb L ∧ ∀ j, S' j → S j ∨ (w.heap.size ≤ j ∧ j < wr.heap.size)) ∧ Kp S w wr ∧ L.length ≤ n
theorem Cod.keep {S : Nat → Prop} {w wr w' : World} {tb n : Nat} {L : List E} (h : Cod S w wr tb n L) (hg : wr.grownBy w' none) : Cod S w w' tb n L := by
  obtain ⟨⟨S', h1, h2⟩, h3, h4⟩ := h
  have hs := hg.size
  exact ⟨⟨S', h1.kept fun j _ hl => hg.block j hl (by simp), fun j hj => (h2 j hj).imp id fun e => by omega⟩, h3.trans (Kp.of0 hg) (fun _ _ h => h), h4⟩
theorem Cod.put {S : Nat → Prop} {w wr w' : World} {tb n : Nat} {L : List E} (h : Cod S w wr tb n L) (hn : n < 100000) (hS : ∀ j, S j → j < w.heap.size) (hg : wr.grownBy w' none) (k : K) (v : ByteArray) (hk : k.length ≤ 100000) :
    Calls Tryd.prog 50 #[ptr tb, .string (bt k), .string v] w' fun r w'' => (∃ a b, r = .returned (.tuple #[a, b])) ∧ Cod S w w'' tb (n + 1) (putE ⟨k, v⟩ L) ∧ ∀ j, wr.heap.size ≤ j → j < w'.heap.size → w''.heap[j]? = w'.heap[j]? := by
  have hk3 := (h.keep hg).2.1
  obtain ⟨⟨S', h1, h2⟩, h3, h4⟩ := h
  have h1' : Tri S' w' tb L := h1.kept fun j _ hl => hg.block j hl (by simp)
  have hsr := h1.srt
  have hs1 := h3.size
  have hs2 := hg.size
  refine (put_any w' h1' k v hk (by omega)).mono ?_
  rintro r w'' ⟨rfl, h7, h8⟩
  have hs3 := h8.size
  have hlt : ∀ j, S' j → j < wr.heap.size := fun j hj => by
    rcases h2 j hj with e | e
    · have := hS j e; omega
    · exact e.2
  refine ⟨⟨_, _, rfl⟩, ⟨⟨_, h7, fun j hj => ?_⟩, hk3.trans h8 fun i hi hi2 => ?_, ?_⟩, fun j hj1 hj2 => h8.block j hj2 fun e => by have := hlt j e; omega⟩
  · rcases hj with hj | hj
    · exact (h2 j hj).imp id fun e => by omega
    · exact .inr (by omega)
  · rcases h2 i hi2 with e | e
    · exact e
    · omega
  · have := putE_le hsr ⟨k, v⟩; omega
theorem Cod.drop {S : Nat → Prop} {w wr w' : World} {tb n : Nat} {L : List E} (h : Cod S w wr tb n L) (hn : n < 100000) (hS : ∀ j, S j → j < w.heap.size) (hg : wr.grownBy w' none) (k : K) (hk : k.length ≤ 100000) :
    Calls Tryd.prog 51 #[ptr tb, .string (bt k)] w' fun r w'' => (∃ a b, r = .returned (.tuple #[a, b])) ∧ Cod S w w'' tb (n + 1) (delE k L) ∧ ∀ j, wr.heap.size ≤ j → j < w'.heap.size → w''.heap[j]? = w'.heap[j]? := by
  have hk3 := (h.keep hg).2.1
  obtain ⟨⟨S', h1, h2⟩, h3, h4⟩ := h
  have h1' : Tri S' w' tb L := h1.kept fun j _ hl => hg.block j hl (by simp)
  have hsr := h1.srt
  have hs1 := h3.size
  have hs2 := hg.size
  refine (drop_any w' h1' k hk ⟨rfl⟩).mono ?_
  rintro r w'' ⟨rfl, h7, h8⟩
  have hs3 := h8.size
  have hlt : ∀ j, S' j → j < wr.heap.size := fun j hj => by
    rcases h2 j hj with e | e
    · have := hS j e; omega
    · exact e.2
  refine ⟨⟨_, _, rfl⟩, ⟨⟨_, h7, fun j hj => ?_⟩, hk3.trans h8 fun i hi hi2 => ?_, ?_⟩, fun j hj1 hj2 => h8.block j hj2 fun e => by have := hlt j e; omega⟩
  · exact (h2 j hj).imp id fun e => by omega
  · rcases h2 i hi2 with e | e
    · exact e
    · omega
  · have := delE_le k L; omega
set_option maxRecDepth 100000 in
set_option maxHeartbeats 4000000 in
/-- draft.carryOut. -/
theorem carry_any (w : World) {n₀ db tb : Nat} {wv cv : Value} {ws : List Wr} {cs : List K} (h : Dft n₀ w db tb wv cv ws cs) {S : Nat → Prop} {L : List E} (hT : Tri S w tb L) (hS : ∀ j, S j → j < n₀) (hk : ∀ x ∈ ws, x.ky.length ≤ 100000) (hl : L.length + ws.length < 100000) :
    Calls Tryd.prog 36 #[ptr db] w fun e w' => e = .returned (.tuple #[]) ∧ Dft n₀ w' db tb wv cv ws cs ∧ Cod S w w' tb (L.length + ws.length) (wrAll L ws) := by
  obtain ⟨a, cap, rfl⟩ := h.shape
  have hlt := h.lt
  have hge := h.ge
  have hS' : ∀ j, S j → j < w.heap.size := fun j hj => by have := hS j hj; omega
  have c1 : w.cell? ⟨db, 1, none⟩ = some (.slice a ws.length cap) := by simp [World.cell?, h.blk]
  replace hT : Hid _ := ⟨hT⟩
  go_enter Tryd.func36, Tryd.ntmps36
  go_wp2_with fail
  go_loopw [9] (fun iv wr => ∃ i : Nat, iv = .int .i64 i ∧ i ≤ ws.length ∧ Hid (Cod S w wr tb (L.length + i) (wrAll L (ws.take i))))
    (fun iv _ => ws.length - (intOf iv).toNat)
  case atStart => exact ⟨0, rfl, by omega, ⟨⟨S, by simpa [wrAll] using hT.out, fun j hj => .inl hj⟩, Kp.refl _ _, by simp [wrAll]⟩⟩
  case round =>
    obtain ⟨i, rfl, hi, hR⟩ := hrel
    have hd := h.kp hR.out.2.1 hS
    by_cases hlt2 : i < ws.length
    · have hdi : decide ((i : Int) < ws.length) = true := by simp; omega
      obtain ⟨x, hx⟩ : ∃ x, ws[i]? = some x := ⟨_, List.getElem?_eq_getElem hlt2⟩
      obtain ⟨g, rfl, _, hgl, _, k0, k1, k2⟩ := hd.at hx
      have hxk := hk x (List.mem_of_getElem? hx)
      obtain ⟨ky, vl, is⟩ := x
      have hts : ws.take (i + 1) = ws.take i ++ [⟨ky, vl, is⟩] := by rw [List.take_add_one, hx]; rfl
      have hc0 : wr.cell? ⟨db, 0, none⟩ = some (ptr tb) := by simp [World.cell?, hd.blk]
      have hsz := hR.out.2.1.size
      have hwa : Hid (wrAll L (ws.take (i + 1)) = wrOne (wrAll L (ws.take i)) ⟨ky, vl, is⟩) := ⟨by rw [hts, wrAll_snoc]⟩
      have hga := World.grownBy_alloc wr (.cells #[.string (bt ky), .string vl, .bool is] 101) none
      have q0 : (wr.alloc (.cells #[.string (bt ky), .string vl, .bool is] 101)).cell? ⟨wr.heap.size, 0, none⟩ = some (.string (bt ky)) := cell_new wr _ 101 rfl
      have q1 : (wr.alloc (.cells #[.string (bt ky), .string vl, .bool is] 101)).cell? ⟨wr.heap.size, 1, none⟩ = some (.string vl) := cell_new wr _ 101 rfl
      have q2 : (wr.alloc (.cells #[.string (bt ky), .string vl, .bool is] 101)).cell? ⟨wr.heap.size, 2, none⟩ = some (.bool is) := cell_new wr _ 101 rfl
      have hn1 : i < ws.length := hlt2
      have hn2 : (i : Int) < (ws.length : Int) := by omega
      have hn3 : (0 : Int) ≤ (i : Int) := by omega
      have hcd : Hid (∀ w5, Cod S w w5 tb (L.length + i + 1) (wrAll L (ws.take (i + 1))) → w5.cell? ⟨db, 0, none⟩ = some (ptr tb)) := ⟨fun w5 h5 => by
        have := h.kp h5.2.1 hS
        simp [World.cell?, this.blk]⟩
      have hbox : Hid (∀ (w' w5 : World), (wr.alloc (.cells #[.string (bt ky), .string vl, .bool is] 101)).grownBy w' none → (∀ j, wr.heap.size ≤ j → j < w'.heap.size → w5.heap[j]? = w'.heap[j]?) → w5.cell? ⟨wr.heap.size, 0, none⟩ = some (.string (bt ky)) ∧ w5.cell? ⟨wr.heap.size, 1, none⟩ = some (.string vl)) := ⟨fun w' w5 hg hb => by
        have hs := hg.size
        simp at hs
        have hb' := hb wr.heap.size (Nat.le_refl _) (by omega)
        exact ⟨(World.cell?_of_block (w := w') hb').trans (grown_cell hg q0), (World.cell?_of_block (w := w') hb').trans (grown_cell hg q1)⟩⟩
      cases is with
      | true =>
        have hput : Hid (∀ w', (wr.alloc (.cells #[.string (bt ky), .string vl, .bool true] 101)).grownBy w' none → Calls Tryd.prog 50 #[ptr tb, .string (bt ky), .string vl] w' fun r w5 => (∃ a b, r = .returned (.tuple #[a, b])) ∧ Cod S w w5 tb (L.length + i + 1) (wrAll L (ws.take (i + 1))) ∧ (w5.cell? ⟨db, 0, none⟩ = some (ptr tb) ∧ w5.cell? ⟨wr.heap.size, 0, none⟩ = some (.string (bt ky)) ∧ w5.cell? ⟨wr.heap.size, 1, none⟩ = some (.string vl))) := ⟨fun w' hg => by
          refine (hR.out.put (by omega) hS' (grown_none hga hg) ky vl hxk).mono ?_
          rintro r w5 ⟨hr, h5, h6⟩
          have h5' : Cod S w w5 tb (L.length + i + 1) (wrAll L (ws.take (i + 1))) := by rw [hwa.out]; exact h5
          exact ⟨hr, h5', hcd.out _ h5', hbox.out _ _ hg h6⟩⟩
        replace hga : Hid _ := ⟨hga⟩
        clear hR hcd hbox hts hx hd
        go_wp2_with fail
        go_region_held3 (fun w' => w'.cell? ⟨db, 0, none⟩ = some (ptr tb) ∧ w'.cell? ⟨wr.heap.size, 0, none⟩ = some (.string (bt ky)) ∧ w'.cell? ⟨wr.heap.size, 1, none⟩ = some (.string vl))
          (first
            | go_keep
            | exact hT6)
          ((go_at_call 50
            refine (hput.out _ (grown_drew _)).mono ?_
            rintro e w5 ⟨⟨p1, p2, rfl⟩, hT5, hT6⟩))
        replace hT5 : Hid _ := ⟨hT5⟩
        clear hT6 hput
        go_wp2_with fail
        exact ⟨⟨i + 1, by go_num, by omega, hT5⟩, by simp [intOf] <;> omega⟩
      | false =>
        have hput : Hid (∀ w', (wr.alloc (.cells #[.string (bt ky), .string vl, .bool false] 101)).grownBy w' none → Calls Tryd.prog 51 #[ptr tb, .string (bt ky)] w' fun r w5 => (∃ a b, r = .returned (.tuple #[a, b])) ∧ Cod S w w5 tb (L.length + i + 1) (wrAll L (ws.take (i + 1))) ∧ (w5.cell? ⟨db, 0, none⟩ = some (ptr tb) ∧ w5.cell? ⟨wr.heap.size, 0, none⟩ = some (.string (bt ky)))) := ⟨fun w' hg => by
          refine (hR.out.drop (by omega) hS' (grown_none hga hg) ky hxk).mono ?_
          rintro r w5 ⟨hr, h5, h6⟩
          have h5' : Cod S w w5 tb (L.length + i + 1) (wrAll L (ws.take (i + 1))) := by rw [hwa.out]; exact h5
          exact ⟨hr, h5', hcd.out _ h5', (hbox.out _ _ hg h6).1⟩⟩
        replace hga : Hid _ := ⟨hga⟩
        clear hR hcd hbox hts hx hd
        go_wp2_with fail
        go_region_held3 (fun w' => w'.cell? ⟨db, 0, none⟩ = some (ptr tb) ∧ w'.cell? ⟨wr.heap.size, 0, none⟩ = some (.string (bt ky)))
          (first
            | go_keep
            | exact hT6)
          ((go_at_call 51
            refine (hput.out _ (grown_drew _)).mono ?_
            rintro e w5 ⟨⟨p1, p2, rfl⟩, hT5, hT6⟩))
        replace hT5 : Hid _ := ⟨hT5⟩
        clear hT6 hput
        go_wp2_with fail
        exact ⟨⟨i + 1, by go_num, by omega, hT5⟩, by simp [intOf] <;> omega⟩
    · have hdi : decide ((i : Int) < ws.length) = false := by simp; omega
      have hie : i = ws.length := by omega
      have hR' := hR.out
      rw [hie, List.take_of_length_le (Nat.le_refl _)] at hR'
      have hfin : Hid _ := ⟨And.intro hd hR'⟩
      clear hR hd hR' hie
      go_wp2
      go_end0
      exact ⟨rfl, hfin.out⟩
end Go.Proofs.YtmahpceokpajgaaDoor
