/- A script of acts as the walks want it. -/
import Derived.Test.YtipcoghhnbgalaaLive
namespace Go.Proofs.Ytipcoghhnbgalaa
open Go.RowKit Go.IntWalk Go.Maps
set_option linter.unusedVariables false
/-- An act: its kind, name and deadline. -/
structure Ac where
  kd : Int
  nm : ByteArray
  at_ : Int
def Ac.cells (x : Ac) : List Value := [.int .i64 x.kd, .string x.nm, .int .u64 x.at_]
def Ac.ok (x : Ac) : Prop := (-9223372036854775808 ≤ x.kd ∧ x.kd < 9223372036854775808) ∧ x.nm.size ≤ maxLen ∧ 0 ≤ x.at_ ∧ x.at_ < 18446744073709551616
/-- A slice v of acts xs, in a block below n₀. -/
def Acs (n₀ : Nat) (W : World) (v : Value) (xs : List Ac) : Prop :=
  ((v = .slice none 0 0 ∨ ∃ ad cap, v = .slice (some ad) 0 cap) ∧ xs = []) ∨ ∃ b off cap, v = .slice (some ⟨b, off, none⟩) xs.length cap ∧ b < n₀ ∧ xs.length ≤ cap ∧ cap ≤ maxLen ∧
    ∀ (j : Nat) (x : Ac), xs[j]? = some x → x.ok ∧ W.cell? ⟨b, off + j * 3, none⟩ = some (.int .i64 x.kd) ∧ W.cell? ⟨b, off + j * 3 + 1, none⟩ = some (.string x.nm) ∧ W.cell? ⟨b, off + j * 3 + 2, none⟩ = some (.int .u64 x.at_)
theorem Acs.shape {n₀ : Nat} {W : World} {v : Value} {xs : List Ac} (h : Acs n₀ W v xs) : ∃ a cap, v = .slice a xs.length cap ∧ xs.length ≤ maxLen := by
  obtain ⟨rfl | ⟨ad, cap, rfl⟩, rfl⟩ | ⟨b, off, cap, rfl, _, h1, h2, _⟩ := id h
  · exact ⟨_, _, rfl, by simp⟩
  · exact ⟨_, _, rfl, by simp⟩
  · exact ⟨_, _, rfl, by omega⟩
theorem Acs.below {n₀ : Nat} {A B : World} (h : Below n₀ A B) {v : Value} {xs : List Ac} (k : Acs n₀ A v xs) : Acs n₀ B v xs := by
  rcases k with e | ⟨b, off, cap, e, hb, hl, hm, hc⟩
  · exact .inl e
  · exact .inr ⟨b, off, cap, e, hb, hl, hm, fun j x hj => ⟨(hc j x hj).1, (h.cell (p := ⟨b, off + j * 3, none⟩) hb).trans (hc j x hj).2.1, (h.cell (p := ⟨b, off + j * 3 + 1, none⟩) hb).trans (hc j x hj).2.2.1, (h.cell (p := ⟨b, off + j * 3 + 2, none⟩) hb).trans (hc j x hj).2.2.2⟩⟩
theorem Acs.at {n₀ : Nat} {W : World} {a : Option Addr} {len cap : Nat} {xs : List Ac} (h : Acs n₀ W (.slice a len cap) xs) {j : Nat} {x : Ac} (hj : xs[j]? = some x) :
    ∃ b off, a = some ⟨b, off, none⟩ ∧ b < n₀ ∧ x.ok ∧ W.cell? ⟨b, off + j * 3, none⟩ = some (.int .i64 x.kd) ∧ W.cell? ⟨b, off + j * 3 + 1, none⟩ = some (.string x.nm) ∧ W.cell? ⟨b, off + j * 3 + 2, none⟩ = some (.int .u64 x.at_) := by
  obtain ⟨_, rfl⟩ | ⟨b, off, c, e, hb, hl, hm, hc⟩ := h
  · simp at hj
  · simp only [Value.slice.injEq] at e
    exact ⟨b, off, e.1, hb, hc j x hj⟩
/-- What an act does to what was built. -/
def bstep (L : List E) (x : Ac) : List E := if x.nm.size ≤ 40 then (if x.kd = 1 then putE ⟨x.nm, x.at_⟩ L else if x.kd = 2 then delN x.nm L else L) else L
def bld (xs : List Ac) : List E := xs.foldl bstep []
theorem bld_snoc (xs : List Ac) (x : Ac) : bld (xs ++ [x]) = bstep (bld xs) x := by simp [bld]
theorem bstep_srt {L : List E} (h : Srt L) (x : Ac) : Srt (bstep L x) := by
  unfold bstep
  split
  · split
    · exact h.put _
    · split
      · exact h.del _
      · exact h
  · exact h
theorem bld_srt (xs : List Ac) : Srt (bld xs) := by
  have : ∀ (xs : List Ac) (L : List E), Srt L → Srt (xs.foldl bstep L) := by
    intro xs
    induction xs with
    | nil => intro L h; exact h
    | cons x xs ih => intro L h; exact ih _ (bstep_srt h x)
  exact this xs [] Srt.nil
theorem bld_len (xs : List Ac) : (bld xs).length ≤ xs.length := by
  have : ∀ (xs : List Ac) (L : List E), Srt L → (xs.foldl bstep L).length ≤ L.length + xs.length := by
    intro xs
    induction xs with
    | nil => intro L h; simp
    | cons x xs ih =>
      intro L h
      have h1 := ih _ (bstep_srt h x)
      have h2 : (bstep L x).length ≤ L.length + 1 := by
        unfold bstep
        split
        · split
          · exact putE_le h _
          · split
            · have := delN_le x.nm L; omega
            · omega
        · omega
      simp only [List.foldl_cons, List.length_cons]
      omega
  have h1 := this xs [] Srt.nil
  unfold bld
  simp at h1
  exact h1
/-- Each entry that was built came of an act. -/
theorem bld_from (xs : List Ac) : ∀ e ∈ bld xs, ∃ x ∈ xs, e = ⟨x.nm, x.at_⟩ ∧ x.nm.size ≤ 40 := by
  have : ∀ (xs : List Ac) (L : List E), ∀ e ∈ xs.foldl bstep L, e ∈ L ∨ ∃ x ∈ xs, e = ⟨x.nm, x.at_⟩ ∧ x.nm.size ≤ 40 := by
    intro xs
    induction xs with
    | nil => intro L e he; exact .inl he
    | cons x xs ih =>
      intro L e he
      rcases ih _ e he with h | ⟨y, hy, h⟩
      · unfold bstep at h
        split at h
        · rename_i hs
          split at h
          · rcases mem_putE.1 h with h | h
            · exact .inr ⟨x, by simp, h, hs⟩
            · exact .inl h.1
          · split at h
            · exact .inl (mem_delN.1 h).1
            · exact .inl h
        · exact .inl h
      · exact .inr ⟨y, by simp [hy], h⟩
  intro e he
  rcases this xs [] e he with h | h
  · simp at h
  · exact h
set_option maxRecDepth 100000 in
set_option maxHeartbeats 2000000 in
/-- belfrylaw06.built. -/
theorem built_s {W w : World} {l : List Res} (h : St W w l) {a : Option Addr} {cap : Nat} {xs : List Ac} (ha : Acs W.heap.size W (.slice a xs.length cap) xs) (hxl : xs.length ≤ maxLen) :
    Calls Try.prog 21 #[.slice a xs.length cap] w fun r w' => ∃ qb, r = .returned (.pointer (some ⟨qb, 0, none⟩)) ∧ St W w' (.q qb (bld (xs.take 150)) :: l) := by
  unfold maxLen at hxl
  go_enter Try.func21, Try.ntmps21
  go_wp2_with fail
  refine (new_s h).mono ?_
  rintro r w1 ⟨qb, rfl, hs⟩
  go_wp2_with fail
  go_loopw [4] (fun i wr => ∃ k : Nat, k ≤ xs.length ∧ k ≤ 150 ∧ i = .int .i64 k ∧ Hid (St W wr (.q qb (bld (xs.take k)) :: l)))
    (fun i _ => 150 - (intOf i).toNat)
  case atStart => exact ⟨0, by omega, by omega, rfl, ⟨hs⟩⟩
  case round =>
    clear hs
    obtain ⟨k, hk, hk2, rfl, hS⟩ := hrel
    by_cases hlt : k < xs.length
    · by_cases h150 : k < 150
      · have hd1 : decide ((k : Int) < xs.length) = true := by simp; omega
        have hd2 : decide ((k : Int) < 150) = true := by simp; omega
        obtain ⟨x, hx⟩ : ∃ x, xs[k]? = some x := ⟨xs[k], List.getElem?_eq_getElem hlt⟩
        have hnx : xs.take (k + 1) = xs.take k ++ [x] := by rw [List.take_add_one, hx]; rfl
        have hbl : (bld (xs.take k)).length < 100000 := by
          have := bld_len (xs.take k)
          rw [List.length_take] at this
          omega
        obtain ⟨b, off, rfl, hb, hok, c0, c1, c2⟩ := (ha.below hS.out.2).at hx
        have hst : ∀ L', bstep (bld (xs.take k)) x = L' → bld (xs.take (k + 1)) = L' := fun L' e => by rw [hnx, bld_snoc, e]
        replace hst : Hid _ := ⟨hst⟩
        replace hx : Hid _ := ⟨hx⟩
        replace hnx : Hid _ := ⟨hnx⟩
        have hcell : Hid (∀ w', Below W.heap.size W w' → w'.cell? ⟨b, off + k * 3 + 1, none⟩ = some (.string x.nm) ∧ w'.cell? ⟨b, off + k * 3 + 2, none⟩ = some (.int .u64 x.at_)) := ⟨fun w' hb' => by
          obtain ⟨b', off', e', _, _, _, d1, d2⟩ := (ha.below hb').at hx.out
          cases e'
          exact ⟨d1, d2⟩⟩
        by_cases hsz : x.nm.size ≤ 40
        · have hds : decide ((x.nm.size : Int) ≤ 40) = true := by simp; omega
          by_cases hk1 : x.kd = 1
          · have hkd1 : (x.kd == 1) = true := by simp [hk1]
            have hkd2 : (x.kd == 2) = false := by simp [hk1]
            have he : bld (xs.take (k + 1)) = putE ⟨x.nm, x.at_⟩ (bld (xs.take k)) := hst.out _ (by simp [bstep, hsz, hk1])
            replace he : Hid _ := ⟨he⟩
            clear hk1
            go_wp2_with fail
            go_region_held3 (fun w' => w'.cell? ⟨b, off + k * 3 + 1, none⟩ = some (.string x.nm) ∧ w'.cell? ⟨b, off + k * 3 + 2, none⟩ = some (.int .u64 x.at_))
              (first
                | go_keep
                | exact hcell.out _ hs2.2)
              ((go_at_call 11
                refine (put_s (hS.out.grown (grown_drew wr)) x.nm x.at_ hok.2.1 hok.2.2 hbl).mono ?_
                rintro r w2 ⟨rfl, hs2⟩))
            obtain ⟨b2, off2, e2, _, _, d0, d1, d2⟩ := (ha.below hs2.2).at hx.out
            cases e2
            go_wp2_with fail
            go_roundw
            case rel => exact ⟨k + 1, by omega, by omega, by go_num, ⟨by rw [he.out]; exact hs2⟩⟩
            case measure => simp [intOf]; omega
          · have hkd1 : (x.kd == 1) = false := by simp [hk1]
            by_cases hk2 : x.kd = 2
            · have hkd2 : (x.kd == 2) = true := by simp [hk2]
              have he : bld (xs.take (k + 1)) = delN x.nm (bld (xs.take k)) := hst.out _ (by simp [bstep, hsz, hk2])
              replace he : Hid _ := ⟨he⟩
              clear hk1 hk2
              go_wp2_with fail
              refine (drop_s hS.out x.nm hok.2.1).mono ?_
              rintro r w2 ⟨rfl, hs2⟩
              go_wp2_with fail
              go_roundw
              case rel => exact ⟨k + 1, by omega, by omega, by go_num, ⟨by rw [he.out]; exact hs2⟩⟩
              case measure => simp [intOf]; omega
            · have hkd2 : (x.kd == 2) = false := by simp [hk2]
              have he : bld (xs.take (k + 1)) = bld (xs.take k) := hst.out _ (by simp [bstep, hsz, hk1, hk2])
              replace he : Hid _ := ⟨he⟩
              go_wp2_with fail
              go_roundw
              case rel => exact ⟨k + 1, by omega, by omega, by go_num, ⟨by rw [he.out]; exact hS.out⟩⟩
              case measure => simp [intOf]; omega
        · have hds : decide ((x.nm.size : Int) ≤ 40) = false := by simp; omega
          have he : bld (xs.take (k + 1)) = bld (xs.take k) := hst.out _ (by simp [bstep, hsz])
          replace he : Hid _ := ⟨he⟩
          go_wp2_with fail
          go_roundw
          case rel => exact ⟨k + 1, by omega, by omega, by go_num, ⟨by rw [he.out]; exact hS.out⟩⟩
          case measure => simp [intOf]; omega
      · have hd1 : decide ((k : Int) < xs.length) = true := by simp; omega
        have hd2 : decide ((k : Int) < 150) = false := by simp; omega
        have hke : k = 150 := by omega
        subst hke
        go_wp2_with fail
        go_ret
        exact ⟨_, rfl, hS.out⟩
    · have hd1 : decide ((k : Int) < xs.length) = false := by simp; omega
      have hke : Hid (xs.take 150 = xs.take k) := ⟨by rw [List.take_of_length_le (by omega), List.take_of_length_le (by omega)]⟩
      go_wp2_with fail
      go_ret
      exact ⟨_, rfl, by rw [hke.out]; exact hS.out⟩
end Go.Proofs.Ytipcoghhnbgalaa
