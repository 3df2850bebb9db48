/- Frames, in plain words: how long the one is that bytes begin with, which ones bytes begin with, whether one is right, what a record's is. -/
import Derived.Test.YtgblekdllcngnaaMore
import Derived.Test.YtgblekdllcngnaaPlain
namespace Go.Proofs.Ytgblekdllcngnaa
open Go.RowKit Go.IntWalk Crcm Plain
set_option linter.unusedVariables false

/-- How many bytes the record has, by the first two. -/
def hd2 (b : List Int) : Int := 256 * (b[0]?.getD 0 : Int) + (b[1]?.getD 0 : Int)
/-- How many bytes the frame has that bytes begin with. -/
def fsz (b : List Int) : Nat :=
  if b.length < 6 then 0 else
  if hd2 b < 1 ∨ hd2 b > 1000 ∨ hd2 b > (b.length : Int) - 6 then 0 else 6 + (hd2 b).toNat
theorem fsz_le (b : List Int) : fsz b ≤ b.length := by
  unfold fsz
  split
  · omega
  · split <;> omega
theorem fsz_pos {b : List Int} (h : fsz b ≠ 0) : 7 ≤ fsz b ∧ fsz b ≤ 1006 := by
  unfold fsz at h ⊢
  split at h
  · omega
  · next h1 =>
    split at h
    · omega
    · next h2 => rw [if_neg h1, if_neg h2]; omega
/-- The frames that bytes begin with. -/
def frs (b : List Int) : List (List Int) := if h : fsz b = 0 then [] else b.take (fsz b) :: frs (b.drop (fsz b))
termination_by b.length
decreasing_by
  have h1 := fsz_pos h
  have h2 := fsz_le b
  rw [List.length_drop]; omega
theorem frs_none {b : List Int} (h : fsz b = 0) : frs b = [] := by rw [frs]; simp [h]
theorem frs_some {b : List Int} (h : fsz b ≠ 0) : frs b = b.take (fsz b) :: frs (b.drop (fsz b)) := by rw [frs]; simp [h]
/-- The sum that a frame should have. -/
def fsum (f : List Int) : BitVec 32 := more (sum (bts (f.take 2))) (bts (f.drop 6))
/-- The sum that a frame has. -/
def fwr (f : List Int) : Int := val ((f.take 6).drop 2)
def rgt (f : List Int) : Bool := fwr f == U (fsum f)
/-- The sum of a record. -/
def rsum (r : List Int) : BitVec 32 := more (sum (bts [(r.length : Int) / 256, (r.length : Int) % 256])) (bts r)
/-- A record's frame. -/
def frm (r : List Int) : List Int := [(r.length : Int) / 256, (r.length : Int) % 256, U (rsum r) / 16777216, U (rsum r) / 65536 % 256, U (rsum r) / 256 % 256, U (rsum r) % 256] ++ r
theorem frm_length (r : List Int) : (frm r).length = 6 + r.length := by simp [frm]; omega
theorem frm_drop (r : List Int) : (frm r).drop 6 = r := rfl
theorem frm_take (r : List Int) : (frm r).take 2 = [(r.length : Int) / 256, (r.length : Int) % 256] := rfl
/-- A record that may be. -/
def okR (r : List Int) : Prop := 1 ≤ r.length ∧ r.length ≤ 1000 ∧ ∀ z ∈ r, 0 ≤ z ∧ z < 256
theorem frm_byte {r : List Int} (h : okR r) : ∀ z ∈ frm r, 0 ≤ z ∧ z < 256 := by
  have h1 := U_lo (rsum r)
  have h2 := U_hi (rsum r)
  obtain ⟨a, b, c⟩ := h
  intro z hz
  simp only [frm, List.mem_append, List.mem_cons, List.not_mem_nil, or_false] at hz
  rcases hz with (rfl | rfl | rfl | rfl | rfl | rfl) | hz
  · omega
  · omega
  · omega
  · omega
  · omega
  · omega
  · exact c z hz
theorem fsum_frm (r : List Int) : fsum (frm r) = rsum r := rfl
theorem fwr_frm (r : List Int) : fwr (frm r) = U (rsum r) := by
  have h1 := U_lo (rsum r)
  have h2 := U_hi (rsum r)
  show val [U (rsum r) / 16777216, U (rsum r) / 65536 % 256, U (rsum r) / 256 % 256, U (rsum r) % 256] = _
  simp only [val, List.foldl]
  omega
theorem rgt_frm (r : List Int) : rgt (frm r) = true := by unfold rgt; rw [fwr_frm, fsum_frm]; simp
theorem fsz_frm {r t : List Int} (h : okR r) : fsz (frm r ++ t) = (frm r).length := by
  obtain ⟨a, b, c⟩ := h
  have e0 : (frm r ++ t)[0]?.getD 0 = (r.length : Int) / 256 := rfl
  have e1 : (frm r ++ t)[1]?.getD 0 = (r.length : Int) % 256 := rfl
  have e2 : hd2 (frm r ++ t) = r.length := by unfold hd2; rw [e0, e1]; omega
  unfold fsz
  rw [e2, List.length_append, frm_length, if_neg (by omega), if_neg (by omega)]
  omega
/-- The bytes of records. -/
def frms (rs : List (List Int)) : List Int := (rs.map frm).flatten
theorem frms_nil : frms [] = [] := rfl
theorem frms_cons (r : List Int) (rs : List (List Int)) : frms (r :: rs) = frm r ++ frms rs := by simp [frms]
theorem frms_snoc (r : List Int) (rs : List (List Int)) : frms (rs ++ [r]) = frms rs ++ frm r := by simp [frms]
theorem frms_append (rs qs : List (List Int)) : frms (rs ++ qs) = frms rs ++ frms qs := by simp [frms]
theorem frms_byte {rs : List (List Int)} (h : ∀ r ∈ rs, okR r) : ∀ z ∈ frms rs, 0 ≤ z ∧ z < 256 := by
  intro z hz
  simp only [frms, List.mem_flatten, List.mem_map] at hz
  obtain ⟨_, ⟨r, hr, rfl⟩, hz⟩ := hz
  exact frm_byte (h r hr) z hz
theorem frs_frms {rs : List (List Int)} (h : ∀ r ∈ rs, okR r) (t : List Int) : frs (frms rs ++ t) = rs.map frm ++ frs t := by
  induction rs with
  | nil => rfl
  | cons r rs ih =>
    have hr := h r (by simp)
    rw [frms_cons, List.append_assoc]
    have e := fsz_frm (t := frms rs ++ t) hr
    rw [frs_some (by rw [e, frm_length]; omega), e, List.take_left, List.drop_left, ih fun x hx => h x (by simp [hx])]
    rfl
/-- A part of a frame is none. -/
theorem fsz_part {r p : List Int} (h : okR r) (hp : p <+: frm r) (hl : p.length < (frm r).length) : fsz p = 0 := by
  obtain ⟨q, e⟩ := hp
  obtain ⟨a, b, c⟩ := h
  have hfl := frm_length r
  unfold fsz
  by_cases h6 : p.length < 6
  · rw [if_pos h6]
  · rw [if_neg h6]
    have e0 : p[0]?.getD 0 = (r.length : Int) / 256 := by
      have : (frm r)[0]? = p[0]? := by rw [← e, List.getElem?_append_left (by omega)]
      rw [← this]; rfl
    have e1 : p[1]?.getD 0 = (r.length : Int) % 256 := by
      have : (frm r)[1]? = p[1]? := by rw [← e, List.getElem?_append_left (by omega)]
      rw [← this]; rfl
    have e2 : hd2 p = r.length := by unfold hd2; rw [e0, e1]; omega
    rw [e2, if_pos (by right; right; omega)]
/-- How many right frames bytes begin with, and how many bytes these have. -/
def cnt (b : List Int) : Nat := ((frs b).takeWhile rgt).length
def msz (b : List Int) : Nat := ((frs b).takeWhile rgt).flatten.length
theorem takeWhile_map_frm (rs : List (List Int)) (l : List (List Int)) : ((rs.map frm) ++ l).takeWhile rgt = rs.map frm ++ l.takeWhile rgt := by
  induction rs with
  | nil => rfl
  | cons r rs ih => simp only [List.map_cons, List.cons_append, List.takeWhile_cons, rgt_frm, if_true, ih]
theorem cnt_frms {rs : List (List Int)} (h : ∀ r ∈ rs, okR r) {t : List Int} (ht : fsz t = 0) : cnt (frms rs ++ t) = rs.length := by
  unfold cnt; rw [frs_frms h, frs_none ht, takeWhile_map_frm]; simp
theorem msz_frms {rs : List (List Int)} (h : ∀ r ∈ rs, okR r) {t : List Int} (ht : fsz t = 0) : msz (frms rs ++ t) = (frms rs).length := by
  unfold msz; rw [frs_frms h, frs_none ht, takeWhile_map_frm]; simp [frms]
theorem fsz_nil : fsz [] = 0 := rfl
theorem flat_len_le (b : List Int) : (frs b).flatten.length ≤ b.length := by
  induction b using frs.induct with
  | case1 b h => rw [frs_none h]; simp
  | case2 b h ih =>
    rw [frs_some h, List.flatten_cons, List.length_append, List.length_take]
    rw [List.length_drop] at ih
    have := fsz_le b
    omega
theorem msz_le (b : List Int) : msz b ≤ b.length := by
  refine Nat.le_trans ?_ (flat_len_le b)
  unfold msz
  have : ((frs b).takeWhile rgt).flatten ++ ((frs b).dropWhile rgt).flatten = (frs b).flatten := by rw [← List.flatten_append, List.takeWhile_append_dropWhile]
  rw [← this, List.length_append]; omega
theorem frs_len_le (b : List Int) : (frs b).length ≤ b.length := by
  induction b using frs.induct with
  | case1 b h => rw [frs_none h]; simp
  | case2 b h ih =>
    rw [frs_some h, List.length_cons]
    rw [List.length_drop] at ih
    have := fsz_le b
    have := fsz_pos h
    omega
theorem cnt_le (b : List Int) : cnt b ≤ b.length := by
  refine Nat.le_trans ?_ (frs_len_le b)
  unfold cnt
  exact (List.takeWhile_prefix rgt).length_le
end Go.Proofs.Ytgblekdllcngnaa
