/- node.tell: the entries of a node and of those below it, one after another. -/
import Derived.Test.YtpcdmjalfabbmaaSub
import Derived.Test.YtpcdmjalfabbmaaTow
import Derived.Test.YtpcdmjalfabbmaaAlo
namespace Go.Proofs.Ytpcdmjalfabbmaa
open Go.RowKit Go.Shelf Go.IntWalk Go.Maps
set_option linter.unusedVariables false
attribute [local go_sem] Oper.semAt_some
theorem room_none {F : Fence} (hd : F.depth = none) (k : Nat) : F.room k := fun d h => by rw [hd] at h; cases h
theorem round_any {F : Fence} (hd : F.depth = none) {m m' : Nat} {P : Program} {l : Nat} {f : FuncId} {tmps : Array Value} {assign body : Code} {w : World} {R : Ending → World → Prop}
    (h : RoundIn F m P l f tmps assign body w R) : RoundIn F m' P l f tmps assign body w R := ⟨h.1, fun c cs _ => h.2 c cs (room_none hd _)⟩
theorem yield_any {F : Fence} (hd : F.depth = none) {m : Nat} (m' : Nat) {P : Program} {l : Nat} {args : Array Value} {W : World} {R : Ending → World → Prop} (h : YieldAt F m P l args W R) : YieldAt F m' P l args W R := by
  obtain ⟨fn, tmps, assign, body, hy, hR⟩ := h
  exact ⟨fn, tmps, assign, body, hy, round_any hd hR⟩
set_option maxRecDepth 100000 in
set_option maxHeartbeats 4000000 in
theorem tell_in {N : Nat} (hp : Pdq N) (hN : N ≤ 256) (l n₀ M : Nat) {P : List K} {nb mb : K → Nat} {lab : K → K} {L : List E} (hs : Srt L) (hf : ∀ j, Fp P nb mb j → j < n₀) (J Jx : List E → World → Prop) (hJa : ∀ s X Y, J s X → X.grownBy Y none → J s Y)
    (hkn : ∀ p ∈ P, ∀ ks : List UInt8, ks.Nodup → (∀ c ∈ ks, ∃ q, Kid P p q ∧ p ++ [c] <+: q) → ks.length ≤ N)
    (hY : ∀ m pre x W, J pre W → pre.length < M → YieldAt Fence.wide m Try.prog l #[.agg #[.string (bt x.k), .string x.v]] W fun e W' =>
      (e = .returned (.bool true) ∧ J (pre ++ [x]) W' ∧ Kb n₀ W W') ∨ (e = .returned (.bool false) ∧ Jx (pre ++ [x]) W')) :
    ∀ (d n : Nat) (p : K) (pre : List E) (W : World), p ∈ P → (∀ q ∈ P, p <+: q → q.length < p.length + d) → Tm W P nb mb lab (gt L) → n₀ ≤ W.heap.size → J pre W → pre.length + (sub L p).length ≤ M →
      CallsIn Fence.wide n Try.prog 44 #[ptr (nb p), .string (bt p), .func (.yield l) #[] #[]] W fun e W' =>
        (e = .returned (.bool true) ∧ J (pre ++ sub L p) W' ∧ Kb n₀ W W') ∨ (e = .returned (.bool false) ∧ ∃ q, q <+: sub L p ∧ Jx (pre ++ q) W') := by
  intro d
  induction d with
  | zero =>
    intro n p pre W hpP hd
    exact absurd (hd p hpP List.prefix_rfl) (by omega)
  | succ d ih =>
    intro n p pre W hpP hd hT hn0 hJ hM
    have c1 := hT.c1 hpP
    have c2 := hT.c2 hpP
    have c3 := hT.c3 hpP
    obtain ⟨f, hkm, hF⟩ := hT.km p hpP
    have hLP : ∀ x ∈ L, x.k ∈ P := fun x hx => hT.key _ (by rw [hs.gt hx]; rfl)
    refine callsIn_of_wp Try.func44 rfl trivial ?_ rfl
    simp only [Try.ntmps44, List.size_toArray, List.length_cons, List.length_nil, Nat.reduceAdd, Nat.reduceSub, Array.replicate_succ, Array.replicate_zero, List.push_toArray, List.append_toArray, List.nil_append, List.cons_append]
    cases hg : gt L p with
    | some v =>
      rw [hg] at c1 c2
      have hmem : (⟨p, v⟩ : E) ∈ sub L p := mem_sub.2 ⟨gt_some hg, List.prefix_rfl⟩
      have hpos := List.length_pos_of_mem hmem
      obtain ⟨fn, tmps, assign, body, hy, hRo⟩ := hY (n - 1) pre ⟨p, v⟩ W hJ (by omega)
      have hown := own_some hg
      gi_wp2
      refine ⟨(fun h => by cases h), hRo.mono ?_⟩
      rintro e W3 (⟨rfl, hJ3, hk3⟩ | ⟨rfl, hJx3⟩)
      · rw [← hown] at hJ3
        replace hown : Hid _ := ⟨hown⟩
        clear hy hRo
        have hT3 : Tm W3 P nb mb lab (gt L) := hT.kept fun j hj => hk3.b.block j (hf j hj)
        have hkm3 : Km W3 (mb p) f := hkm.kept (hk3.b.block _ (hf _ ⟨p, hpP, .inr rfl⟩))
        have d3 := hT3.c3 hpP
        have hn3 : n₀ ≤ W3.heap.size := by have := hk3.b.size; omega
        have hkey := keys_in (n - 1) (some (mb p)) W3
        obtain ⟨B3, hB3⟩ : ∃ B3, W3.heap.size = B3 := ⟨_, rfl⟩
        have hg4 := World.grownBy_alloc W3 (.cells #[.map (some (mb p))] 62) none
        have hk4 : Kb n₀ W (W3.alloc (.cells #[.map (some (mb p))] 62)) := hk3.trans (Kb.grown hg4 hn3)
        have hJ4 := hJa _ _ _ hJ3 hg4
        have hkm4 : Km (W3.alloc (.cells #[.map (some (mb p))] 62)) (mb p) f := hkm3.kept (hg4.block _ hkm3.lt (by simp))
        have hbc : (W3.alloc (.cells #[.map (some (mb p))] 62)).cell? ⟨B3, 0, none⟩ = some (.map (some (mb p))) := by
          have := World.alloc_heap_new W3 (.cells #[.map (some (mb p))] 62)
          rw [hB3] at this
          simp [World.cell?, this]
        have hsort := sorted_any hp hN _ B3 (mb p) (by simp; omega) hbc hkm4 (fun ks h1 h2 => hkn p hpP ks h1 fun c hc => by
          obtain ⟨b, hb⟩ := Option.isSome_iff_exists.1 ((h2 c).1 hc)
          obtain ⟨q, h3, h4, _⟩ := (hF c b).1 hb
          exact ⟨q, h3, h4⟩)
        have hn4 : n₀ ≤ (W3.alloc (.cells #[.map (some (mb p))] 62)).heap.size := by simp; omega
        replace hkm3 : Hid _ := ⟨hkm3⟩
        replace hT3 : Hid _ := ⟨hT3⟩
        replace hk3 : Hid _ := ⟨hk3⟩
        replace hJ3 : Hid _ := ⟨hJ3⟩
        replace hg4 : Hid _ := ⟨hg4⟩
        replace hk4 : Hid _ := ⟨hk4⟩
        replace hJ4 : Hid _ := ⟨hJ4⟩
        replace hkm4 : Hid _ := ⟨hkm4⟩
        replace hsort : Hid _ := ⟨hsort⟩
        rw [hB3] at hkey
        clear hbc c1 c2 c3
        gi_wp2_with fail
        refine ⟨trivial, fun h => (by cases h), ?_⟩
        refine hkey.mono ?_
        rintro e2 w5 ⟨rfl, hw5⟩
        rw [← hw5] at hk4 hJ4 hkm4 hsort hn4
        clear hkey hw5
        gi_wp2_with fail
        refine ⟨trivial, fun h => (by cases h), ?_⟩
        refine (callsIn_wide.2 hsort.out).mono ?_
        rintro e2 w6 ⟨v6, ks, rfl, hk, hks, hBr, hBe⟩
        have hg6 := below_grown hBe
        have hk6 := hk4.out.trans (Kb.grown hg6 hn4)
        have hJ6 := hJa _ _ _ hJ4.out hg6
        obtain ⟨ad, cap, rfl⟩ := hBr.shape
        have hkl : ks.length ≤ 256 := bytes_le (hk.imp fun {a b} h e => by subst e; exact UInt8.lt_irrefl _ h)
        have hall : ∀ x ∈ L, ∀ c, p ++ [c] <+: x.k → c ∈ ks := fun x hx c hc => by
          obtain ⟨q, h1, h2, _⟩ := kid_ex hpP _ (Nat.le_refl _) (hLP x hx) hc
          exact (hks c).2 (by rw [(hF c (nb q)).2 ⟨q, h1, h2, rfl⟩]; rfl)
        have hsp := sub_split hs p hk hall
        have hstart : Hid (J (pre ++ own L p ++ behind L p (ks.take 0)) w6 ∧ Kb n₀ W w6 ∧ Br w6 w5.heap.size (.slice ad ks.length cap) ks) := ⟨by simpa [behind] using hJ6, hk6, hBr⟩
        replace hsp : Hid _ := ⟨hsp⟩
        replace hall : Hid _ := ⟨hall⟩
        replace hk : Hid _ := ⟨hk⟩
        replace hks : Hid _ := ⟨hks⟩
        obtain ⟨Z, hZ⟩ : ∃ Z, Hid (w5.heap.size = Z) := ⟨_, ⟨rfl⟩⟩
        rw [hZ.out] at hstart
        clear hBr hBe hg6 hk6 hJ6 hJ4 hkm4 hsort hk4 hZ d3
        gi_wp2_with fail
        gi_loopw [32] (fun s wr => ∃ i : Nat, i ≤ ks.length ∧ s = .int .i64 i ∧ Hid (J (pre ++ own L p ++ behind L p (ks.take i)) wr ∧ Kb n₀ W wr ∧ Br wr Z (.slice ad ks.length cap) ks))
          (fun s _ => ks.length - (intOf s).toNat)
        case atStart => exact ⟨0, by omega, rfl, hstart⟩
        case round =>
          clear hstart
          obtain ⟨i, hi, rfl, hR⟩ := hrel
          by_cases hil : i < ks.length
          · have hdi : decide ((i : Int) < ks.length) = true := by simp; omega
            obtain ⟨hJr, hKr, hBr⟩ := hR.out
            obtain ⟨c, hc⟩ := some8 hil
            obtain ⟨g, rfl, hgl, -, k1, f1⟩ := hBr.at hc
            have hTr : Tm wr P nb mb lab (gt L) := hT.kept fun j hj => hKr.b.block j (hf j hj)
            have hkr : Km wr (mb p) f := hkm.kept (hKr.b.block _ (hf _ ⟨p, hpP, .inr rfl⟩))
            have hcm : c ∈ ks := List.mem_of_getElem? hc
            obtain ⟨b, hb⟩ := Option.isSome_iff_exists.1 ((hks.out c).1 hcm)
            obtain ⟨q, hK, hcq, rfl⟩ := (hF c b).1 hb
            have e3 := hTr.c3 hpP
            have e0 := hTr.c0 hK.lo
            have hlk := hkr.look hb
            have hqe := hTr.lb p q hK
            have hql := hTr.len q hK.lo
            have hsum := bt_sum wr p (lab q) (by have := congrArg List.length hqe; rw [List.length_append] at this; omega)
            rw [← hqe] at hsum
            have hsub := sub_kid hT.cl hLP hK hcq
            have htk : behind L p (ks.take (i + 1)) = behind L p (ks.take i) ++ sub L q := by
              rw [List.take_add_one, hc, Option.toList_some, behind_snoc, hsub]
            have hpl := pre_len_lt hK.pre hK.ne
            have hcut : ∃ r, behind L p ks = behind L p (ks.take (i + 1)) ++ r := by
              refine ⟨behind L p (ks.drop (i + 1)), ?_⟩
              unfold behind
              rw [← List.flatMap_append, List.take_append_drop]
            obtain ⟨r, hr⟩ := hcut
            have hlen : (pre ++ own L p ++ behind L p (ks.take i)).length + (sub L q).length ≤ M := by
              have h1 := congrArg List.length hsp.out
              have h2 := congrArg List.length hr
              rw [htk] at h2
              simp only [List.length_append] at h1 h2 ⊢
              omega
            have hrec := ih (n - 1) q _ wr hK.lo (fun q' h1 h2 => by
              have := hd q' h1 (hK.pre.trans h2)
              omega) hTr (by have := hKr.b.size; omega) hJr hlen
            replace hrec : Hid _ := ⟨hrec⟩
            replace hTr : Hid _ := ⟨hTr⟩
            replace hkr : Hid _ := ⟨hkr⟩
            replace hJr : Hid _ := ⟨hJr⟩
            replace hKr : Hid _ := ⟨hKr⟩
            replace hBr : Hid _ := ⟨hBr⟩
            replace hqe : Hid _ := ⟨hqe⟩
            replace hsub : Hid _ := ⟨hsub⟩
            replace htk : Hid _ := ⟨htk⟩
            replace hr : Hid _ := ⟨hr⟩
            replace hlen : Hid _ := ⟨hlen⟩
            clear hc hb
            gi_wp2_with fail
            refine ⟨trivial, fun h => (by cases h), ?_⟩
            refine hrec.out.mono ?_
            rintro e2 w7 (⟨rfl, hJ7, hk7⟩ | ⟨rfl, q', hq', hJx7⟩)
            · have hst : Hid (J (pre ++ own L p ++ behind L p (ks.take (i + 1))) w7 ∧ Kb n₀ W w7 ∧ Br w7 Z (.slice (some ⟨g, 0, none⟩) ks.length cap) ks) := ⟨by rw [htk.out, ← List.append_assoc]; exact hJ7, hKr.out.trans hk7, hk7.rows hBr.out⟩
              clear hJ7 hk7
              gi_wp2_with fail
              exact ⟨⟨i + 1, by omega, by go_num, hst⟩, by simp [intOf]; omega⟩
            · gi_wp2_with fail
              go_ret
              refine .inr ⟨rfl, own L p ++ behind L p (ks.take i) ++ q', ?_, by simpa [List.append_assoc] using hJx7⟩
              rw [hsp.out, hr.out, htk.out]
              obtain ⟨t, ht⟩ := hq'
              exact ⟨t ++ r, by rw [← ht]; simp [List.append_assoc]⟩
          · have hdi : decide ((i : Int) < ks.length) = false := by simp; omega
            have hfin : Hid (J (pre ++ sub L p) wr ∧ Kb n₀ W wr) := ⟨by
              obtain ⟨hJr, hKr, hBr⟩ := hR.out
              rw [List.take_of_length_le (by omega), List.append_assoc, ← hsp.out] at hJr
              exact ⟨hJr, hKr⟩⟩
            clear hR
            gi_wp2_with fail
            go_ret
            exact .inl ⟨rfl, hfin.out⟩
      · have hpre : Hid ([(⟨p, v⟩ : E)] <+: sub L p) := ⟨by
          have h1 : ∀ x ∈ L, ∀ c, p ++ [c] <+: x.k → c ∈ (List.range 256).map UInt8.ofNat := fun x _ c _ => List.mem_map.2 ⟨c.toNat, List.mem_range.2 c.toNat_lt, by simp⟩
          have h2 : ((List.range 256).map UInt8.ofNat).Pairwise (fun x y => x < y) := by
            refine List.pairwise_map.2 (List.pairwise_lt_range.imp_of_mem fun {a b} ha hb hab => ?_)
            rw [UInt8.lt_iff_toNat_lt, UInt8.toNat_ofNat_of_lt' (List.mem_range.1 ha), UInt8.toNat_ofNat_of_lt' (List.mem_range.1 hb)]
            exact hab
          rw [sub_split hs p h2 h1, hown]
          exact List.prefix_append _ _⟩
        gi_wp2
        go_ret
        exact .inr ⟨rfl, [⟨p, v⟩], hpre.out, hJx3⟩
    | none =>
      rw [hg] at c1 c2
      have hown := own_none hg
      obtain ⟨W3, hW3⟩ : ∃ W3, W3 = W := ⟨_, rfl⟩
      have hJ3 : J (pre ++ own L p) W3 := by rw [hown, List.append_nil, hW3]; exact hJ
      have hk3 : Kb n₀ W W3 := by rw [hW3]; exact Kb.refl _ _
      have c1 : W3.cell? ⟨nb p, 1, none⟩ = some (.string (vOf none)) := by rw [hW3]; exact c1
      have c2 : W3.cell? ⟨nb p, 2, none⟩ = some (.bool (none : Option ByteArray).isSome) := by rw [hW3]; exact c2
      rw [← hW3]
      replace hown : Hid _ := ⟨hown⟩
      replace hW3 : Hid _ := ⟨hW3⟩
      have hT3 : Tm W3 P nb mb lab (gt L) := hT.kept fun j hj => hk3.b.block j (hf j hj)
      have hkm3 : Km W3 (mb p) f := hkm.kept (hk3.b.block _ (hf _ ⟨p, hpP, .inr rfl⟩))
      have d3 := hT3.c3 hpP
      have hn3 : n₀ ≤ W3.heap.size := by have := hk3.b.size; omega
      have hkey := keys_in (n - 1) (some (mb p)) W3
      obtain ⟨B3, hB3⟩ : ∃ B3, W3.heap.size = B3 := ⟨_, rfl⟩
      have hg4 := World.grownBy_alloc W3 (.cells #[.map (some (mb p))] 62) none
      have hk4 : Kb n₀ W (W3.alloc (.cells #[.map (some (mb p))] 62)) := hk3.trans (Kb.grown hg4 hn3)
      have hJ4 := hJa _ _ _ hJ3 hg4
      have hkm4 : Km (W3.alloc (.cells #[.map (some (mb p))] 62)) (mb p) f := hkm3.kept (hg4.block _ hkm3.lt (by simp))
      have hbc : (W3.alloc (.cells #[.map (some (mb p))] 62)).cell? ⟨B3, 0, none⟩ = some (.map (some (mb p))) := by
        have := World.alloc_heap_new W3 (.cells #[.map (some (mb p))] 62)
        rw [hB3] at this
        simp [World.cell?, this]
      have hsort := sorted_any hp hN _ B3 (mb p) (by simp; omega) hbc hkm4 (fun ks h1 h2 => hkn p hpP ks h1 fun c hc => by
        obtain ⟨b, hb⟩ := Option.isSome_iff_exists.1 ((h2 c).1 hc)
        obtain ⟨q, h3, h4, _⟩ := (hF c b).1 hb
        exact ⟨q, h3, h4⟩)
      have hn4 : n₀ ≤ (W3.alloc (.cells #[.map (some (mb p))] 62)).heap.size := by simp; omega
      replace hkm3 : Hid _ := ⟨hkm3⟩
      replace hT3 : Hid _ := ⟨hT3⟩
      replace hk3 : Hid _ := ⟨hk3⟩
      replace hJ3 : Hid _ := ⟨hJ3⟩
      replace hg4 : Hid _ := ⟨hg4⟩
      replace hk4 : Hid _ := ⟨hk4⟩
      replace hJ4 : Hid _ := ⟨hJ4⟩
      replace hkm4 : Hid _ := ⟨hkm4⟩
      replace hsort : Hid _ := ⟨hsort⟩
      rw [hB3] at hkey
      clear hbc c3
      gi_wp2_with fail
      refine ⟨fun _ h => (by cases h), ?_⟩
      gi_wp2_with fail
      refine ⟨trivial, fun h => (by cases h), ?_⟩
      refine hkey.mono ?_
      rintro e2 w5 ⟨rfl, hw5⟩
      rw [← hw5] at hk4 hJ4 hkm4 hsort hn4
      clear hkey hw5
      gi_wp2_with fail
      refine ⟨trivial, fun h => (by cases h), ?_⟩
      refine (callsIn_wide.2 hsort.out).mono ?_
      rintro e2 w6 ⟨v6, ks, rfl, hk, hks, hBr, hBe⟩
      have hg6 := below_grown hBe
      have hk6 := hk4.out.trans (Kb.grown hg6 hn4)
      have hJ6 := hJa _ _ _ hJ4.out hg6
      obtain ⟨ad, cap, rfl⟩ := hBr.shape
      have hkl : ks.length ≤ 256 := bytes_le (hk.imp fun {a b} h e => by subst e; exact UInt8.lt_irrefl _ h)
      have hall : ∀ x ∈ L, ∀ c, p ++ [c] <+: x.k → c ∈ ks := fun x hx c hc => by
        obtain ⟨q, h1, h2, _⟩ := kid_ex hpP _ (Nat.le_refl _) (hLP x hx) hc
        exact (hks c).2 (by rw [(hF c (nb q)).2 ⟨q, h1, h2, rfl⟩]; rfl)
      have hsp := sub_split hs p hk hall
      have hstart : Hid (J (pre ++ own L p ++ behind L p (ks.take 0)) w6 ∧ Kb n₀ W w6 ∧ Br w6 w5.heap.size (.slice ad ks.length cap) ks) := ⟨by simpa [behind] using hJ6, hk6, hBr⟩
      replace hsp : Hid _ := ⟨hsp⟩
      replace hall : Hid _ := ⟨hall⟩
      replace hk : Hid _ := ⟨hk⟩
      replace hks : Hid _ := ⟨hks⟩
      obtain ⟨Z, hZ⟩ : ∃ Z, Hid (w5.heap.size = Z) := ⟨_, ⟨rfl⟩⟩
      rw [hZ.out] at hstart
      clear hBr hBe hg6 hk6 hJ6 hJ4 hkm4 hsort hk4 hZ d3
      gi_wp2_with fail
      gi_loopw [32] (fun s wr => ∃ i : Nat, i ≤ ks.length ∧ s = .int .i64 i ∧ Hid (J (pre ++ own L p ++ behind L p (ks.take i)) wr ∧ Kb n₀ W wr ∧ Br wr Z (.slice ad ks.length cap) ks))
        (fun s _ => ks.length - (intOf s).toNat)
      case atStart => exact ⟨0, by omega, rfl, hstart⟩
      case round =>
        clear hstart
        obtain ⟨i, hi, rfl, hR⟩ := hrel
        by_cases hil : i < ks.length
        · have hdi : decide ((i : Int) < ks.length) = true := by simp; omega
          obtain ⟨hJr, hKr, hBr⟩ := hR.out
          obtain ⟨c, hc⟩ := some8 hil
          obtain ⟨g, rfl, hgl, -, k1, f1⟩ := hBr.at hc
          have hTr : Tm wr P nb mb lab (gt L) := hT.kept fun j hj => hKr.b.block j (hf j hj)
          have hkr : Km wr (mb p) f := hkm.kept (hKr.b.block _ (hf _ ⟨p, hpP, .inr rfl⟩))
          have hcm : c ∈ ks := List.mem_of_getElem? hc
          obtain ⟨b, hb⟩ := Option.isSome_iff_exists.1 ((hks.out c).1 hcm)
          obtain ⟨q, hK, hcq, rfl⟩ := (hF c b).1 hb
          have e3 := hTr.c3 hpP
          have e0 := hTr.c0 hK.lo
          have hlk := hkr.look hb
          have hqe := hTr.lb p q hK
          have hql := hTr.len q hK.lo
          have hsum := bt_sum wr p (lab q) (by have := congrArg List.length hqe; rw [List.length_append] at this; omega)
          rw [← hqe] at hsum
          have hsub := sub_kid hT.cl hLP hK hcq
          have htk : behind L p (ks.take (i + 1)) = behind L p (ks.take i) ++ sub L q := by
            rw [List.take_add_one, hc, Option.toList_some, behind_snoc, hsub]
          have hpl := pre_len_lt hK.pre hK.ne
          have hcut : ∃ r, behind L p ks = behind L p (ks.take (i + 1)) ++ r := by
            refine ⟨behind L p (ks.drop (i + 1)), ?_⟩
            unfold behind
            rw [← List.flatMap_append, List.take_append_drop]
          obtain ⟨r, hr⟩ := hcut
          have hlen : (pre ++ own L p ++ behind L p (ks.take i)).length + (sub L q).length ≤ M := by
            have h1 := congrArg List.length hsp.out
            have h2 := congrArg List.length hr
            rw [htk] at h2
            simp only [List.length_append] at h1 h2 ⊢
            omega
          have hrec := ih (n - 1) q _ wr hK.lo (fun q' h1 h2 => by
            have := hd q' h1 (hK.pre.trans h2)
            omega) hTr (by have := hKr.b.size; omega) hJr hlen
          replace hrec : Hid _ := ⟨hrec⟩
          replace hTr : Hid _ := ⟨hTr⟩
          replace hkr : Hid _ := ⟨hkr⟩
          replace hJr : Hid _ := ⟨hJr⟩
          replace hKr : Hid _ := ⟨hKr⟩
          replace hBr : Hid _ := ⟨hBr⟩
          replace hqe : Hid _ := ⟨hqe⟩
          replace hsub : Hid _ := ⟨hsub⟩
          replace htk : Hid _ := ⟨htk⟩
          replace hr : Hid _ := ⟨hr⟩
          replace hlen : Hid _ := ⟨hlen⟩
          clear hc hb
          gi_wp2_with fail
          refine ⟨trivial, fun h => (by cases h), ?_⟩
          refine hrec.out.mono ?_
          rintro e2 w7 (⟨rfl, hJ7, hk7⟩ | ⟨rfl, q', hq', hJx7⟩)
          · have hst : Hid (J (pre ++ own L p ++ behind L p (ks.take (i + 1))) w7 ∧ Kb n₀ W w7 ∧ Br w7 Z (.slice (some ⟨g, 0, none⟩) ks.length cap) ks) := ⟨by rw [htk.out, ← List.append_assoc]; exact hJ7, hKr.out.trans hk7, hk7.rows hBr.out⟩
            clear hJ7 hk7
            gi_wp2_with fail
            exact ⟨⟨i + 1, by omega, by go_num, hst⟩, by simp [intOf]; omega⟩
          · gi_wp2_with fail
            go_ret
            refine .inr ⟨rfl, own L p ++ behind L p (ks.take i) ++ q', ?_, by simpa [List.append_assoc] using hJx7⟩
            rw [hsp.out, hr.out, htk.out]
            obtain ⟨t, ht⟩ := hq'
            exact ⟨t ++ r, by rw [← ht]; simp [List.append_assoc]⟩
        · have hdi : decide ((i : Int) < ks.length) = false := by simp; omega
          have hfin : Hid (J (pre ++ sub L p) wr ∧ Kb n₀ W wr) := ⟨by
            obtain ⟨hJr, hKr, hBr⟩ := hR.out
            rw [List.take_of_length_le (by omega), List.append_assoc, ← hsp.out] at hJr
            exact ⟨hJr, hKr⟩⟩
          clear hR
          gi_wp2_with fail
          go_ret
          exact .inl ⟨rfl, by rw [hW3.out]; exact hfin.out⟩
end Go.Proofs.Ytpcdmjalfabbmaa
