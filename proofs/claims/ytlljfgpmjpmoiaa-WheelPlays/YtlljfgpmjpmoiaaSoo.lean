/- nearest and Soonest of a wheel. -/
import Derived.Test.YtlljfgpmjpmoiaaWhl
import Derived.WalkMore
namespace Go.Proofs.Ytlljfgpmjpmoiaa
open Go.RowKit Go.IntWalk Go.Maps Go.Shelf
set_option linter.unusedVariables false
/-- The first set that is not empty, or the far one. -/
def Fst (c : Nat → List E) (i : Nat) : Prop := i < 65 ∧ (∀ m, m < i → c m = []) ∧ (i < 64 → c i ≠ [])
set_option maxRecDepth 100000 in
set_option maxHeartbeats 2000000 in
/-- Wheel.nearest. -/
theorem nearest_any (w : World) {wb bd : Nat} {bs : Nat → Nat} {now : Int} {L : List E} {c : Nat → List E} (h : Wf w wb bd bs now L c) :
    Calls Try.prog 36 #[.pointer (some ⟨wb, 0, none⟩)] w fun r w' => ∃ i, r = .returned (.map (some (bs i))) ∧ Fst c i ∧ w' = w := by
  have cf := h.cn (i := 64) (by omega)
  simp only [Nat.reduceAdd] at cf
  go_enter Try.func36, Try.ntmps36
  go_wp2
  go_step3
  go_wp2
  go_step3
  go_wp2
  go_loop [3, 10] (fun v i => ∃ k : Nat, k ≤ 4 ∧ v = .map (some (bs 64)) ∧ i = .int .i64 k ∧ Hid (∀ m, m < 16 * k → c m = []))
    (fun _ i => 4 - (intOf i).toNat)
  case atStart => exact ⟨0, by omega, rfl, rfl, ⟨by omega⟩⟩
  case round =>
    obtain ⟨k, hk, rfl, rfl, hM⟩ := hrel
    by_cases hlt : k < 4
    · have hd : decide ((k : Int) < 4) = true := by simp; omega
      go_wp2_with fail
      go_loop [3, 13] (fun v i => ∃ q : Nat, q ≤ 16 ∧ v = .map (some (bs 64)) ∧ i = .int .i64 q ∧ Hid (∀ m, m < 16 * k + q → c m = []))
        (fun _ i => 16 - (intOf i).toNat)
      case atStart => exact ⟨0, by omega, rfl, rfl, hM⟩
      case round =>
        clear hM
        obtain ⟨q, hq, rfl, rfl, hM⟩ := hrel
        by_cases hlq : q < 16
        · have hdq : decide ((q : Int) < 16) = true := by simp; omega
          have cs := h.cs hlt hlq
          have hl := (h.st (16 * k + q) (by omega)).len 3
          have hi : ∃ i, i = 16 * k + q := ⟨_, rfl⟩
          by_cases he : c (16 * k + q) = []
          · have hz : (c (16 * k + q)).length = 0 := by rw [he]; rfl
            have hM2 : Hid (∀ m, m < 16 * k + (q + 1) → c m = []) := ⟨fun m hm => by
              by_cases e : m = 16 * k + q
              · rw [e]; exact he
              · exact hM.out m (by omega)⟩
            rw [hz] at hl
            clear hz he hi
            generalize bs (16 * k + q) = b at *
            go_wp2_with fail
            go_round
            case rel => exact ⟨q + 1, by omega, rfl, by go_num, hM2⟩
            case measure => simp [intOf]; omega
          · have hz : 0 < (c (16 * k + q)).length := List.length_pos_iff.2 he
            have hF : Hid (Fst c (16 * k + q)) := ⟨by omega, hM.out, fun _ => he⟩
            generalize (c (16 * k + q)).length = n at *
            have hd1 : decide ((n : Int) > 0) = true := by simp; omega
            have hd2 : decide (0 < n) = true := by simp; omega
            clear he hi
            generalize hB : bs (16 * k + q) = b at *
            replace hB : Hid _ := ⟨hB⟩
            go_wp2_with fail
            go_ret
            exact ⟨16 * k + q, by rw [hB.out]; rfl, hF.out, rfl⟩
        · have hdq : decide ((q : Int) < 16) = false := by simp; omega
          have hqe : q = 16 := by omega
          subst hqe
          go_wp2_with fail
          go_round
          case rel => exact ⟨k + 1, by omega, rfl, by go_num, hM⟩
          case measure => simp [intOf]; omega
    · have hd : decide ((k : Int) < 4) = false := by simp; omega
      have hke : k = 4 := by omega
      subst hke
      go_wp2_with fail
      go_ret
      exact ⟨64, rfl, ⟨by omega, hM.out, by omega⟩, rfl⟩
/-- The least of the first set that is not empty is the first of all. -/
theorem first_least {now : Int} {f : E} {L ss : List E} {i : Nat} {m : E} (hs : Srt (f :: L)) (hn : 0 ≤ now ∧ now < 18446744073709551616) (hab : ∀ e ∈ f :: L, now < e.at_) (hok : ∀ e ∈ f :: L, e.ok) (hF : Fst (atP now (f :: L)) i) (hm : ∀ x, x ∈ ss ↔ x ∈ atP now (f :: L) i) (hl : Least ss ss.length m) : m = f := by
  unfold Least at hl
  rw [List.take_length] at hl
  have hmL := (mem_atP.1 ((hm m).1 hl.1))
  have hf : f ∈ f :: L := by simp
  by_cases hp : pE now f = i
  · have h1 := hl.2 f ((hm f).2 (mem_atP.2 ⟨hf, hp⟩))
    rcases lt_tri m f with h | h | h
    · rcases List.mem_cons.1 hmL.1 with e | e
      · exact e
      · exact absurd h (lt_asymm (hs.head.1 m e))
    · exact h
    · exact absurd h h1
  · have h1 : i < pE now f := by
      rcases Nat.lt_trichotomy (pE now f) i with h | h | h
      · have := hF.2.1 _ h
        have h2 : f ∈ atP now (f :: L) (pE now f) := mem_atP.2 ⟨hf, rfl⟩
        rw [this] at h2
        cases h2
      · exact absurd h hp
      · exact h
    rw [← hmL.2] at h1
    have a1 := hok f hf
    have a2 := hok m hmL.1
    have b1 := hab f hf
    have b2 := hab m hmL.1
    unfold E.ok at a1 a2
    have h3 := plc_ahead (n := now.toNat) (a := m.at_.toNat) (b := f.at_.toNat) (by omega) (by omega) (by omega) (by omega) (by omega) h1
    rcases List.mem_cons.1 hmL.1 with e | e
    · exact e
    · exact absurd (Or.inl (by omega) : lt m f) (lt_asymm (hs.head.1 m e))
theorem run_field (n : ByteArray) (a : Int) (w : World) : (Instr.field 52 (.agg #[.string n, .int .u64 a]) 1).run Try.prog w = .ok (.int .u64 a) w := by
  have h1 := Try.isAgg22 w
  simp [Instr.field, Go.run_underlying Try.underlying52, Result.andThen, part, h1, asAgg]
/-- What Soonest tells. -/
def soonT (L : List E) : Int := match L with | [] => 0 | f :: _ => f.at_
def soonB (L : List E) : Bool := match L with | [] => false | _ :: _ => true
set_option maxRecDepth 100000 in
set_option maxHeartbeats 2000000 in
/-- Wheel.Soonest. -/
theorem soon_any (w : World) {S : Nat → Prop} {wb : Nat} {now : Int} {L : List E} (h : Wh S w wb now L) :
    Calls Try.prog 18 #[.pointer (some ⟨wb, 0, none⟩)] w fun r w' => r = .returned (.tuple #[.int .u64 (soonT L), .bool (soonB L)]) ∧ w.grownBy w' none := by
  have hcl := len_any w h
  cases L with
  | nil =>
    go_enter Try.func18, Try.ntmps18
    go_wp2_with (go_at_call 21; refine hcl.mono ?_; rintro e w' ⟨rfl, rfl⟩)
    go_ret2
    exact ⟨rfl, grown_refl _⟩
  | cons f L =>
    obtain ⟨bd, bs, h1, h2⟩ := h.ex
    have hcn := nearest_any w h1
    have hlen := h.len
    have hsr := h.srt
    have hnw := h.nw
    have hab := h.abv
    have hok := h.ok
    have hne : (((f :: L).length : Int) == 0) = false := by simp; omega
    generalize hn : (f :: L).length = n at *
    have hgn : (n : Int) ≠ 0 := by simpa using hne
    replace hn : Hid _ := ⟨hn⟩
    go_enter Try.func18, Try.ntmps18
    go_wp2_with (go_at_call 21; refine hcl.mono ?_; rintro e w' ⟨rfl, rfl⟩)
    refine hcn.mono ?_
    rintro r w1 ⟨i, rfl, hF, rfl⟩
    have hS := h1.st i hF.1
    have hal := atP_len now (f :: L) i
    have hpos : 0 < (atP now (f :: L) i).length := by
      rcases Nat.lt_or_ge i 64 with hi | hi
      · exact List.length_pos_iff.2 (hF.2.2 hi)
      · have hi' : i = 64 := by have := hF.1; omega
        have hp : pE now f = 64 := by
          have h3 : pE now f < 65 := plc_lt
          rcases Nat.lt_or_ge (pE now f) 64 with h4 | h4
          · have h5 := hF.2.1 (pE now f) (by omega)
            have h6 : f ∈ atP now (f :: L) (pE now f) := mem_atP.2 ⟨by simp, rfl⟩
            rw [h5] at h6
            cases h6
          · omega
        exact List.length_pos_of_mem (mem_atP.2 ⟨by simp, by rw [hp, hi']⟩ : f ∈ atP now (f :: L) i)
    replace hF : Hid _ := ⟨hF⟩
    have hal2 : Hid ((atP now (f :: L) i).length ≤ 100000) := ⟨by have := hn.out; omega⟩
    clear hal
    replace hpos : Hid _ := ⟨hpos⟩
    replace hab : Hid _ := ⟨hab⟩
    replace hok : Hid _ := ⟨hok⟩
    go_wp2_with fail
    refine (timers_any w1 hS hal2.out).mono ?_
    rintro r w2 ⟨g, cap, ss, rfl, hr, hg, hnd, hm, hgr⟩
    have hsl : Hid (ss.length = (atP now (f :: L) i).length) := ⟨len_mem hnd hS.nd hm⟩
    replace hm : Hid _ := ⟨hm⟩
    go_wp2_with fail
    refine (min_any w2 hr (by rw [hsl.out]; exact hal2.out) (by rw [hsl.out]; exact hpos.out)).mono ?_
    rintro r w3 ⟨m, rfl, hl, hg3⟩
    have hmf : m = f := first_least hsr hnw hab.out hok.out hF.out hm.out hl
    subst hmf
    have hg4 := grown_none hgr hg3
    replace hl : Hid _ := ⟨hl⟩
    have hfd := run_field m.n m.at_ w3
    go_wp2
    go_ret2
    exact ⟨rfl, hg4⟩
set_option maxRecDepth 100000 in
set_option maxHeartbeats 1000000 in
theorem soon_nil (w : World) : Calls Try.prog 18 #[.pointer none] w fun r w' => r = .returned (.tuple #[.int .u64 0, .bool false]) ∧ w' = w := by
  go_enter Try.func18, Try.ntmps18
  go_wp2_with (go_at_call 21; refine (len_nil _).mono ?_; rintro e w' ⟨rfl, rfl⟩)
  go_ret2
  exact ⟨rfl, rfl⟩
end Go.Proofs.Ytlljfgpmjpmoiaa
