/- A draft's deeds, by their kinds. -/
import Derived.Test.YtmahpceokpajgaaDoorDco
import Derived.Test.YtmahpceokpajgaaDoorFie
import Derived.Laws.EntriesVeiled
namespace Go.Proofs.YtmahpceokpajgaaDoor
open Go.RowKit Go.IntWalk Go.Maps Go.Shelf
set_option linter.unusedVariables false
set_option maxRecDepth 100000 in
set_option maxHeartbeats 2000000 in
/-- deedsByKind. -/
theorem deeds_any (w : World) : Calls Tryd.prog 35 #[] w fun r w' => r = .returned (.agg #[.nilFunc, .func (.func 46) #[] #[], .func (.func 47) #[] #[], .func (.func 48) #[] #[], .func (.func 49) #[] #[]]) ∧ w.grownBy w' none := by
  have hg := World.grownBy_alloc w (.cells #[.nilFunc, .func (.func 46) #[] #[], .func (.func 47) #[] #[], .func (.func 48) #[] #[], .func (.func 49) #[] #[]] 75) none
  replace hg : Hid _ := ⟨hg⟩
  go_enter Tryd.func35, Tryd.ntmps35
  go_wp2
  refine bodyPost_ret (v := .agg #[.nilFunc, .func (.func 46) #[] #[], .func (.func 47) #[] #[], .func (.func 48) #[] #[], .func (.func 49) #[] #[]]) (by rw [results_cell1 rfl]; go_simp) rfl ?_
  exact ⟨rfl, hg.out⟩
/-- What an Add adds to: the key's number, else 0. -/
def addO (L : List E) (ws : List Wr) (s : Sp) : Option Int := numOf (if (dval ws L s.ky).2 then (dval ws L s.ky).1.data.toList else [48])
/-- What a step's deed answers. -/
def stE (L : List E) (ws : List Wr) (s : Sp) : Int := if s.kd = 3 then sumE (addO L ws s) s.n else 0
/-- .. and what it writes. -/
def stW (L : List E) (ws : List Wr) (s : Sp) : List Wr :=
  if s.kd = 1 then [⟨s.ky, bt s.vl, true⟩] else if s.kd = 2 then [⟨s.ky, ⟨#[]⟩, false⟩] else if s.kd = 3 then [⟨s.ky, bt (sumK (addO L ws s) s.n), true⟩] else []
/-- .. and what it cancels. -/
def stC (s : Sp) : List K := if s.kd = 4 then [s.ky] else []
theorem rgt_kd3 {s : Sp} (h : rgt s = true) : (s.kd = 1 ∨ s.kd = 2 ∨ s.kd = 3 ∨ s.kd = 4) ∧ s.ky.length ≤ 16 ∧ s.vl.length ≤ 60 := by
  simp only [rgt, Bool.and_eq_true, Bool.or_eq_true, beq_iff_eq, decide_eq_true_eq] at h
  obtain ⟨⟨⟨_, h1⟩, h2⟩, h3⟩ := h
  refine ⟨?_, h1, h2⟩
  rcases h3 with (⟨h, _⟩ | ⟨h, _⟩) | ⟨h | h, _⟩ <;> simp [h]
theorem deed_any (w : World) {n₀ db tb : Nat} {wv cv : Value} {ws : List Wr} {cs : List K} (h : Dft n₀ w db tb wv cv ws cs) {S : Nat → Prop} {L : List E} (hT : Tri S w tb L) (hD : Dr w) (s : Sp) (hs : s.ok) (hr : rgt s = true) (hl : ws.length ≤ 1000) (hl2 : cs.length ≤ 1000)
    (hvL : ∀ x ∈ L, x.v.size ≤ 100000) (hvW : ∀ x ∈ ws, x.vl.size ≤ 100000) (f : Nat) (hf : (f : Int) = 45 + s.kd) {x : Int} (hx : Hid (stE L ws s = x)) :
    Calls Tryd.prog f #[ptr db, s.val] w fun r w' => r = .returned (.int .i64 x) ∧ Bw n₀ db w w' ∧ (x = 0 → ∃ wv' cv', Dft n₀ w' db tb wv' cv' (ws ++ stW L ws s) (cs ++ stC s)) := by
  obtain ⟨hk, hky, hvl⟩ := rgt_kd3 hr
  rcases hk with hk | hk | hk | hk
  · obtain rfl : f = 46 := by omega
    refine (dput_any w h s (by omega)).mono ?_
    rintro r w' ⟨rfl, hB, wv', hd⟩
    refine ⟨by rw [← hx.out]; simp [stE, hk], hB, fun _ => ⟨wv', cv, ?_⟩⟩
    simpa [stW, stC, hk] using hd
  · obtain rfl : f = 47 := by omega
    refine (ddrop_any w h s (by omega)).mono ?_
    rintro r w' ⟨rfl, hB, wv', hd⟩
    refine ⟨by rw [← hx.out]; simp [stE, hk], hB, fun _ => ⟨wv', cv, ?_⟩⟩
    simpa [stW, stC, hk] using hd
  · obtain rfl : f = 48 := by omega
    have hsz : (dval ws L s.ky).1.size ≤ 100000 := by
      unfold dval
      cases e : wlast ws s.ky with
      | some y =>
        have := List.mem_of_find?_eq_some e
        exact hvW y (by simpa using this)
      | none =>
        cases e2 : gt L s.ky with
        | none => exact (by decide : (ByteArray.mk #[]).size ≤ 100000)
        | some v => exact hvL _ (gt_some e2)
    obtain ⟨v, is, hv⟩ : ∃ v is, dval ws L s.ky = (v, is) := ⟨_, _, rfl⟩
    have hsz2 : v.size ≤ 100000 := by rw [hv] at hsz; exact hsz
    refine (dadd_any w h hT hD s hs.2.2.2 (by omega) (by omega) ⟨hv⟩ (k := if is then v.data.toList else [48]) ⟨?_⟩ ?_ (o := addO L ws s) ⟨by simp [addO, hv]⟩ (x := x) ⟨by rw [← hx.out]; simp [stE, hk]⟩).mono ?_
    · cases is <;> simp [bt_of]
    · cases is
      · simp
      · have := bt_size v.data.toList
        rw [bt_of] at this
        simp only [if_true]
        omega
    · rintro r w' ⟨rfl, hB, hd⟩
      refine ⟨rfl, hB, fun h0 => ?_⟩
      obtain ⟨wv', hd⟩ := hd h0
      exact ⟨wv', cv, by simpa [stW, stC, hk] using hd⟩
  · obtain rfl : f = 49 := by omega
    refine (cancel_any w h s (by omega)).mono ?_
    rintro r w' ⟨rfl, hB, cv', hd⟩
    refine ⟨by rw [← hx.out]; simp [stE, hk], hB, fun _ => ⟨wv, cv', ?_⟩⟩
    simpa [stW, stC, hk] using hd
end Go.Proofs.YtmahpceokpajgaaDoor
