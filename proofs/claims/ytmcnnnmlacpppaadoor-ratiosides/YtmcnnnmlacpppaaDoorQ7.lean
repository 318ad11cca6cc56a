/- Regions that only read and call, drawn or not: every call's contract holds in any later world, the operations lie behind a letter. -/
import Derived.Test.YtmcnnnmlacpppaaDoorQ4
import Derived.Test.YtmcnnnmlacpppaaDoorQ6
import Derived.Test.YtmcnnnmlacpppaaDoorZc
import Derived.Test.YtmcnnnmlacpppaaDoorQ5
import Derived.Test.YtmcnnnmlacpppaaDoorZo
namespace Go.Proofs.YtmcnnnmlacpppaaDoor
open Go.RowKit

theorem vl_noughts : ∀ n : Nat, vl (List.replicate n 0) = 0
  | 0 => rfl
  | n + 1 => by rw [List.replicate_succ, vl, vl_noughts n]
theorem getD_up (L : Nat) (ts : List Nat) (j : Nat) : (List.replicate L 0 ++ ts).getD j 0 = if L ≤ j then ts.getD (j - L) 0 else 0 := by
  simp only [List.getD_eq_getElem?_getD, List.getElem?_append, List.length_replicate, List.getElem?_replicate]
  by_cases q : j < L
  · rw [if_pos q, if_pos q, if_neg (by omega)]; rfl
  · rw [if_neg q, if_pos (by omega)]
theorem lo_up (L : Nat) {z : Nat} (hz : z ≠ 0) : lo (2 ^ (64 * L) * z) = List.replicate L 0 ++ lo z := by
  have e : vl (List.replicate L 0 ++ lo z) = 2 ^ (64 * L) * z := by
    rw [vl_append, vl_noughts, vl_lo, List.length_replicate, Nat.zero_add]
  rw [← e]
  have hl := lo_length z
  have hp : nl z ≠ 0 := fun h => hz (by have := vl_lo z; rw [List.length_eq_zero_iff.1 (hl.trans h)] at this; exact this.symm)
  refine lo_vl (fun x hx => ?_) (Or.inr ?_)
  · rcases List.mem_append.1 hx with h | h
    · rw [(List.mem_replicate.1 h).2]; omega
    · exact lo_lm z x h
  · have := (lo_last hz).1
    rw [List.length_append, List.length_replicate, getD_up, if_pos (by omega)]
    rw [show L + (lo z).length - 1 - L = (lo z).length - 1 by omega]
    exact this
set_option maxHeartbeats 1000000 in
theorem lputn_any (L : Nat) (xs : List Nat) (ao : Option Addr) (cap : Nat) (w : World) (h : LS w ao cap xs) (hL : Lm xs) (hn : xs.length ≤ 100000) (hl0 : L ≤ 100000) :
    Calls Tryd.prog 51 #[.int .i64 L, .slice ao xs.length cap] w (GaveLW w (2 ^ (64 * L) * vl xs)) := by
  have ct := trimL_any xs ao cap w h hL (by omega)
  have hT := h.trim hL
  have nle := nlW_le hL
  generalize vl xs = z at *
  have hl := lo_length z
  by_cases h0 : nl z = 0
  · have hz : z = 0 := by have := vl_lo z; rw [List.length_eq_zero_iff.1 (hl.trans h0)] at this; exact this.symm
    subst hz
    rw [Nat.mul_zero]
    unfold GaveLW
    rw [h0] at ct hl
    go_enter Tryd.func51, Tryd.ntmps51
    go_wp2_with (go_at_call 43; refine ct.mono ?_; rintro e w' ⟨rfl, hww⟩; subst w')
    go_ret
    exact ⟨none, 0, by rw [h0]; rfl, ⟨Or.inl hl, by omega, fun _ => rfl⟩, Below.refl _ _⟩
  · have hz : z ≠ 0 := fun e => h0 (by rw [e]; rfl)
    have eup := lo_up L hz
    have elen : nl (2 ^ (64 * L) * z) = L + nl z := by rw [← lo_length, eup, List.length_append, List.length_replicate, hl]
    unfold GaveLW
    rw [eup, elen]
    clear eup elen hz
    obtain ⟨n, en⟩ : ∃ n, nl z = n := ⟨_, rfl⟩
    rw [en] at ct hl nle h0 ⊢
    obtain ⟨ts, ets⟩ : ∃ ts, lo z = ts := ⟨_, rfl⟩
    rw [ets] at hT hl ⊢
    clear ets en
    have t1 : ((n : Int) == 0) = false := by simp; omega
    have hmk := run_make_row' (P := Tryd.prog) 23 22 (.int .u64 0) 8 Tryd.underlying23 Tryd.infoU rfl .i64 .i64 (L + n) (by omega) (by omega)
    rw [show ((L + n : Nat) : Int) = (L : Int) + (n : Int) by omega] at hmk
    have hmade := FRow.made w (L + n)
    have hbm : Below w.heap.size w (w.alloc (.cells (madeCells #[.int .u64 0] (L + n)) 22)) := (Below.refl _ _).alloc (Nat.le_refl _) _
    rcases hT.1 with hc | ⟨b, o, rfl, hc⟩
    · omega
    go_enter Tryd.func51, Tryd.ntmps51
    go_wp2_with (go_at_call 43; refine ct.mono ?_; rintro e w' ⟨rfl, hww⟩; subst w')
    clear hmk ct
    go_loopg [19] n (fun g i wr => ∃ k : Nat, k ≤ n ∧ g = n - k ∧ i = .int .i64 k ∧ FRow wr w.heap.size (L + n) (fun j => if L ≤ j ∧ j < L + k then ts.getD (j - L) 0 else 0) ∧ Below w.heap.size w wr)
    case atStart => exact ⟨0, Nat.zero_le _, rfl, rfl, hmade.congr (fun j _ => by rw [if_neg (by omega)]), hbm⟩
    case round =>
      obtain ⟨k, hk, hg, rfl, hrow, hb⟩ := hrel
      clear hmade hbm
      by_cases hlt : k < n
      · have g0 := hc k (by omega)
        have g1 : wr.cell? ⟨b, o + k, none⟩ = some (.int .u64 (ts.getD k 0 : Nat)) := by rw [hb.cell (World.block_lt_of_cell? w _ g0)]; exact g0
        have hcell : wr.cell? ⟨w.heap.size, L + k, none⟩ = some (.int .u64 ((if L ≤ L + k ∧ L + k < L + k then ts.getD (L + k - L) 0 else 0 : Nat) : Int)) := World.rowIs.cell hrow (by omega)
        have hfro := World.rowIs.frozen hrow (L + k)
        rw [if_neg (by omega)] at hcell
        have hset := hrow.set (L + k) (ts.getD k 0)
        obtain ⟨x, ex⟩ : ∃ x, ts.getD k 0 = x := ⟨_, rfl⟩
        rw [ex] at g1 hset
        have EX : Hid _ := ex
        have hbs := hb.setCell (p := ⟨w.heap.size, L + k, none⟩) (Nat.le_refl _) (.int .u64 ((x : Nat) : Int))
        clear hrow hb g0 ex
        go_wp2
        go_roundg (n - (k + 1))
        case measure => omega
        case rel =>
          refine ⟨k + 1, by omega, rfl, by go_num, hset.congr (fun j hj => ?_), hbs⟩
          by_cases hjk : j = L + k
          · subst hjk; rw [if_pos rfl, if_pos (by omega), Nat.add_sub_cancel_left, EX.out]
          · rw [if_neg hjk]
            by_cases h : L ≤ j ∧ j < L + k
            · rw [if_pos h, if_pos (by omega)]
            · rw [if_neg h, if_neg (by omega)]
      · have hkn : k = n := by omega
        subst hkn
        go_wp2
        go_ret
        refine ⟨_, _, rfl, ⟨FRow.lrow hrow (by rw [List.length_append, List.length_replicate, hl]) (fun j hj => ?_), by simp only [List.length_append, List.length_replicate]; omega, fun e => by cases e⟩, hb⟩
        rw [getD_up]
        by_cases q : L ≤ j
        · rw [if_pos q, if_pos ⟨q, hj⟩]
        · rw [if_neg q, if_neg (by omega)]
end Go.Proofs.YtmcnnnmlacpppaaDoor

namespace Go.Proofs.YtmcnnnmlacpppaaDoor
open Go.RowKit

set_option maxHeartbeats 1000000 in
theorem rpower_any (n : Nat) (hn : n ≤ 1000000) (w : World) : Calls Tryd.prog 40 #[.int .i64 n] w (GaveLW w (2 ^ n)) := by
  have e1 : 2 ^ (64 * (n / 64)) * vl [2 ^ (n % 64)] = 2 ^ n := by
    rw [show vl [2 ^ (n % 64)] = 2 ^ (n % 64) by simp [vl], ← Nat.pow_add, Nat.div_add_mod]
  have p64 : 2 ^ (n % 64) < 18446744073709551616 := Nat.lt_of_lt_of_le (Nat.pow_lt_pow_right (by omega) (Nat.mod_lt n (by omega))) (by decide)
  have LA := oneLS w (2 ^ (n % 64)) 22
  have cP := lputn_any (n / 64) [2 ^ (n % 64)] (some ⟨w.heap.size, 0, none⟩) 1 (w.alloc (.cells #[.int .u64 ((2 ^ (n % 64) : Nat) : Int)] 22)) LA (by intro x hx; rw [List.mem_singleton.1 hx]; exact p64) (by simp) (by omega)
  rw [e1] at cP
  have q1 : (n : Int).tdiv 64 = ((n / 64 : Nat) : Int) := by rw [Int.tdiv_eq_ediv_of_nonneg (by omega)]; omega
  have q2 : (n : Int).tmod 64 = ((n % 64 : Nat) : Int) := by rw [Int.tmod_eq_emod_of_nonneg (by omega)]; omega
  have hq : n / 64 ≤ 1000000 := by omega
  have r64 : n % 64 < 64 := Nat.mod_lt n (by omega)
  generalize n / 64 = q at *
  generalize n % 64 = r at *
  have pz : ((2 ^ r : Nat) : Int) = 2 ^ r := by push_cast; rfl
  have hbm : Below w.heap.size w (w.alloc (.cells #[.int .u64 ((2 ^ r : Nat) : Int)] 22)) := (Below.refl _ _).alloc (Nat.le_refl _) _
  simp only [List.length_singleton] at cP
  have w1 : wrap64 (q : Int) = (q : Int) := by unfold wrap64; omega
  have w2 : IntKind.u64.wrap (2 ^ r : Int) = (2 ^ r : Int) := by
    rw [← pz]
    have p := p64
    generalize (2 ^ r : Nat) = z at p ⊢
    exact wrapU_id (by omega) (by omega)
  rw [pz] at cP hbm
  go_enter Tryd.func40, Tryd.ntmps40
  go_wp2_with (go_at_call 51; refine cP.mono ?_; rintro e w1 ⟨no, nc, rfl, LN, b1⟩)
  go_ret
  exact ⟨no, nc, rfl, LN, hbm.trans (b1.mono hbm.size)⟩
end Go.Proofs.YtmcnnnmlacpppaaDoor

namespace Go.Proofs.YtmcnnnmlacpppaaDoor
open Go.RowKit

/-- What OfDyad tells. -/
def odA (d : Dy) : Option (Bool × Nat × Nat) × Int :=
  if rightB d then (if nl (vl d.mag * 2 ^ d.exp.toNat) ≤ 256 ∧ nl (2 ^ (-d.exp).toNat) ≤ 256 then some (d.neg, vl d.mag * 2 ^ d.exp.toNat, 2 ^ (-d.exp).toNat) else none, 3) else (none, 2)
theorem rightB_bd {d : Dy} (h : rightB d = true) : d.mag.length ≤ 256 ∧ -65536 ≤ d.exp ∧ d.exp ≤ 65536 := by
  unfold rightB at h
  split at h
  · simp at h
    omega
  · simp at h
    omega
theorem nl_grown {z L s : Nat} (hz : z < 2 ^ (64 * L)) (hs : s ≤ 65536) : nl (z * 2 ^ s) ≤ L + 1024 := by
  refine nl_le ?_
  have h1 : z * 2 ^ s < 2 ^ (64 * L) * 2 ^ s := Nat.mul_lt_mul_of_pos_right hz (Nat.two_pow_pos s)
  rw [← Nat.pow_add] at h1
  exact Nat.lt_of_lt_of_le h1 (Nat.pow_le_pow_right (by omega) (by omega))
theorem rmaxI {P : Program} {a b c : Int} (h : max a b = c) (ts : Array TypeId) (t : TypeId) (w : World) : (Builtin.max_ ts t #[.int .i64 a, .int .i64 b]).run P w = .ok (.int .i64 c) w := by
  have e : Builtin.max_ ts t #[.int .i64 a, .int .i64 b] = Builtin.max2 (.int .i64 a) (.int .i64 b) := by
    unfold Builtin.max_; simp
  rw [e]
  unfold Builtin.max2
  have e2 : (if b > a then b else a) = c := by rw [← h]; split <;> omega
  simp only [e2, Sem.run_pure]
set_option maxRecDepth 100000 in
set_option maxHeartbeats 2000000 in
theorem rofd_any (neg : Bool) (xs : List Nat) (ex : Int) (ao : Option Addr) (cap : Nat) (w : World) (h : LRow w ao xs) (hL : Lm xs) (he : -9223372036854775807 ≤ ex ∧ ex ≤ 9223372036854775807) :
    Calls Tryd.prog 10 #[.agg #[.bool neg, .slice ao xs.length cap, .int .i64 ex]] w (GaveR w (odA ⟨neg, xs, ex⟩).1 (odA ⟨neg, xs, ex⟩).2) := by
  have AB := (B3q.new w (.bool neg) (.slice ao xs.length cap) (.int .i64 ex) 34).alloc (.cells #[.bool false, .slice none 0 0, .slice none 0 0] 25)
  have OB := B3q.new (w.alloc (.cells #[.bool neg, .slice ao xs.length cap, .int .i64 ex] 34)) (.bool false) (.slice none 0 0) (.slice none 0 0) 25
  have hs1 : (w.alloc (.cells #[.bool neg, .slice ao xs.length cap, .int .i64 ex] 34)).heap.size = w.heap.size + 1 := by simp
  rw [hs1] at OB
  have hb0 : Below w.heap.size w ((w.alloc (.cells #[.bool neg, .slice ao xs.length cap, .int .i64 ex] 34)).alloc (.cells #[.bool false, .slice none 0 0, .slice none 0 0] 25)) := ((Below.refl _ _).alloc (Nat.le_refl _) _).alloc (by rw [hs1]; omega) _
  have A1 := h.below hb0
  have cr := fun w' (hw : Below w.heap.size w w') => right_any ⟨neg, xs, ex⟩ ao cap w' (h.below hw) hL
  simp only at cr
  have hod : odA ⟨neg, xs, ex⟩ = (if rightB ⟨neg, xs, ex⟩ then (if nl (vl xs * 2 ^ ex.toNat) ≤ 256 ∧ nl (2 ^ (-ex).toNat) ≤ 256 then some (neg, vl xs * 2 ^ ex.toNat, 2 ^ (-ex).toNat) else none, 3) else (none, 2)) := rfl
  have hbd := fun h => rightB_bd (d := ⟨neg, xs, ex⟩) h
  simp only at hbd
  rw [hod]
  clear hod
  generalize rightB ⟨neg, xs, ex⟩ = rb at *
  cases rb
  · simp only [Bool.false_eq_true, if_false]
    go_enter Tryd.func10, Tryd.ntmps10
    go_upto_region 1 with fail
    generalize (w.alloc (.cells #[.bool neg, .slice ao xs.length cap, .int .i64 ex] 34)).alloc (.cells #[.bool false, .slice none 0 0, .slice none 0 0] 25) = W0 at *
    obtain ⟨x0, x1, x2, _, _, _, _, xlt⟩ := id AB
    have cr1 := cr W0 hb0
    go_wp2_with (go_at_call 37; refine cr1.mono ?_; rintro e w1 ⟨rfl, b1⟩; have OB1 := OB.below b1; obtain ⟨o0, o1, o2, q0, q1, q2, _, _⟩ := id OB1)
    have b6 := hb0.trans (b1.mono hb0.size)
    exact bodyPost_ret (v := .tuple #[.agg #[.bool false, .slice none 0 0, .slice none 0 0], .int .i64 2]) (by simp [results, Tryd.results10, go_sem, o0, o1, o2]) rfl ⟨rfl, below_three b6 (by omega) _ _ _⟩
  · simp only [if_true]
    obtain ⟨n1, e1, e2⟩ := hbd rfl
    have hz := vl_lt hL
    have k1 : nl (vl xs * 2 ^ ex.toNat) ≤ 40000 := by have := nl_grown hz (s := ex.toNat) (by omega); omega
    have k2 : nl (2 ^ (-ex).toNat) ≤ 40000 := by have := nl_grown (z := 1) (L := 1) (s := (-ex).toNat) (by decide) (by omega); rw [Nat.one_mul] at this; omega
    have mx1 : max ex 0 = (ex.toNat : Int) := by omega
    have mx2 : max (-ex) 0 = ((-ex).toNat : Int) := by omega
    have hm1 := fun ts t W => rmaxI (P := Tryd.prog) mx1 ts t W
    have hm2 := fun ts t W => rmaxI (P := Tryd.prog) mx2 ts t W
    have wn : IntKind.i64.wrap (-ex) = -ex := wrapI_id (by omega) (by omega)
    clear mx1 mx2
    obtain ⟨NN, eN⟩ : ∃ NN, vl xs * 2 ^ ex.toNat = NN := ⟨_, rfl⟩
    obtain ⟨DD, eD⟩ : ∃ DD, 2 ^ (-ex).toNat = DD := ⟨_, rfl⟩
    simp only [eN, eD] at k1 k2 ⊢
    obtain ⟨o, eo⟩ : ∃ o, (if nl NN ≤ 256 ∧ nl DD ≤ 256 then some (neg, NN, DD) else none) = o := ⟨_, rfl⟩
    rw [eo]
    go_enter Tryd.func10, Tryd.ntmps10
    go_upto_region 1 with fail
    generalize (w.alloc (.cells #[.bool neg, .slice ao xs.length cap, .int .i64 ex] 34)).alloc (.cells #[.bool false, .slice none 0 0, .slice none 0 0] 25) = W0 at *
    obtain ⟨x0, x1, x2, _, _, _, _, xlt⟩ := id AB
    have cr1 := cr W0 hb0
    go_upto_region 3 with (go_at_call 37; refine cr1.mono ?_; rintro e w1 ⟨rfl, b1⟩)
    replace AB := AB.below b1
    replace OB := OB.below b1
    replace A1 := A1.below b1
    have hb2 := hb0.trans (b1.mono hb0.size)
    clear x0 x1 x2 xlt cr cr1 h hb0 b1 hbd hs1
    have u1 : ¬ w.heap.size = w.heap.size + 1 := by omega
    have u2 : ¬ w.heap.size + 1 = w.heap.size := by omega
    obtain ⟨x0, x1, x2, _, _, _, _, xlt⟩ := id AB
    obtain ⟨o0, o1, o2, q0, q1, q2, _, olt⟩ := id OB
    have HC : ∀ w', Below w1.heap.size w1 w' → w'.cell? ⟨w.heap.size, 0, none⟩ = some (.bool neg) ∧ w'.cell? ⟨w.heap.size, 1, none⟩ = some (.slice ao xs.length cap) ∧ w'.cell? ⟨w.heap.size, 2, none⟩ = some (.int .i64 ex) := fun w' h => ⟨(AB.below h).c0, (AB.below h).c1, (AB.below h).c2⟩
    have b1d := (Below.refl w1.heap.size w1).drew
    have cs := fun w' (h : Below w1.heap.size w1 w') => lshift_any xs ao cap (ex.toNat : Int) w' (A1.below h) hL (by omega) (by omega) (by omega)
    simp only [Int.toNat_natCast, eN] at cs
    have cp := fun w' => rpower_any (-ex).toNat (by omega) w'
    simp only [eD] at cp
    have ca := fun w' po pc qo qc (hp : LS w' po pc (lo NN)) (hq : LS w' qo qc (lo DD)) => answer_any neg NN DD po qo pc qc w' hp hq k1 k2
    simp only [eo] at ca
    clear k1 k2 hz eN eD eo
    generalize ex.toNat = s1 at *
    generalize (-ex).toNat = s2 at *
    have m0 := HC _ b1d
    cases o with
    | none =>
      unfold GaveR at ca
      go_region_held3 (fun w' => w'.cell? ⟨w.heap.size, 0, none⟩ = some (.bool neg) ∧ w'.cell? ⟨w.heap.size, 1, none⟩ = some (.slice ao xs.length cap) ∧ w'.cell? ⟨w.heap.size, 2, none⟩ = some (.int .i64 ex)) (go_keep)
        (first
          | (go_at_call 38; refine (ca _ _ _ _ _ hP4 hQ4).mono ?_; rintro e w5 ⟨rfl, hb5⟩; have b5 := b4.trans (hb5.mono b4.size); have k5 := HC _ b5; have OB5 := OB.below b5; obtain ⟨o0', o1', o2', q0', q1', q2', _, _⟩ := id OB5)
          | (go_at_call 40; refine (cp _).mono ?_; rintro e w4 ⟨qo, qc, rfl, hQ4, hb4⟩; have b4 := b3.trans (hb4.mono b3.size); have k4 := HC _ b4; have hP4 := hP3.below hb4)
          | (go_at_call 39; refine (cs _ b1d).mono ?_; rintro e w3 ⟨po, pc, rfl, hP3, hb3⟩; have b3 : Below w1.heap.size w1 w3 := b1d.trans hb3; have k3 := HC _ b3))
      all_goals
        have b6 := hb2.trans (b5.mono hb2.size)
        try go_wp2
        exact bodyPost_ret (v := .tuple #[.agg #[.bool false, .slice none 0 0, .slice none 0 0], .int .i64 3]) (by simp [results, Tryd.results10, go_sem, o0', o1', o2']) rfl ⟨rfl, below_three b6 (by omega) _ _ _⟩
    | some r =>
      obtain ⟨ng, N3, D3⟩ := r
      unfold GaveR at ca
      go_region_held3 (fun w' => w'.cell? ⟨w.heap.size, 0, none⟩ = some (.bool neg) ∧ w'.cell? ⟨w.heap.size, 1, none⟩ = some (.slice ao xs.length cap) ∧ w'.cell? ⟨w.heap.size, 2, none⟩ = some (.int .i64 ex)) (go_keep)
        (first
          | (go_at_call 38; refine (ca _ _ _ _ _ hP4 hQ4).mono ?_; rintro e w5 ⟨ro, rc, so, sc, rfl, hA3, hB3, hb5⟩; have b5 := b4.trans (hb5.mono b4.size); have k5 := HC _ b5; have OB5 := OB.below b5; obtain ⟨o0', o1', o2', q0', q1', q2', _, _⟩ := id OB5)
          | (go_at_call 40; refine (cp _).mono ?_; rintro e w4 ⟨qo, qc, rfl, hQ4, hb4⟩; have b4 := b3.trans (hb4.mono b3.size); have k4 := HC _ b4; have hP4 := hP3.below hb4)
          | (go_at_call 39; refine (cs _ b1d).mono ?_; rintro e w3 ⟨po, pc, rfl, hP3, hb3⟩; have b3 : Below w1.heap.size w1 w3 := b1d.trans hb3; have k3 := HC _ b3))
      all_goals
        have b6 := hb2.trans (b5.mono hb2.size)
        try go_wp2
        exact bodyPost_ret (v := .tuple #[.agg #[.bool ng, .slice ro (nl N3) rc, .slice so (nl D3) sc], .int .i64 0]) (by simp [results, Tryd.results10, go_sem, o0', o1', o2']) rfl ⟨ro, rc, so, sc, rfl, hA3.threeB OB5 _ _ _, hB3.threeB OB5 _ _ _, below_three b6 (by omega) _ _ _⟩
end Go.Proofs.YtmcnnnmlacpppaaDoor

namespace Go.Proofs.YtmcnnnmlacpppaaDoor
open Go.RowKit

/-- What Of tells. -/
def ofR (a : Nat) : Option (Bool × Nat × Nat) × Int := if (ofD a).2 = 0 then odA (ofD a).1 else (none, (ofD a).2)
theorem ofD_err (a : Nat) : (ofD a).2 = 0 ∨ (ofD a).2 = 5 := by
  unfold ofD
  (repeat' split) <;> simp
theorem ofD_lm (a : Nat) : Lm (ofD a).1.mag ∧ -9223372036854775807 ≤ (ofD a).1.exp ∧ (ofD a).1.exp ≤ 9223372036854775807 := by
  unfold ofD
  split
  · exact ⟨fun x hx => (by simp [dy0] at hx), by decide, by decide⟩
  · rename_i hf
    split
    · exact ⟨fun x hx => (by simp [dy0] at hx), by decide, by decide⟩
    · rename_i hz
      have h0 : rung a ≠ 0 := fun e => hz (by unfold spF; rw [if_pos e])
      obtain ⟨b1, b2, b3, b4, b5, b6⟩ := sp_bd (by simpa using hf) h0
      refine ⟨fun y hy => by simp at hy; omega, ?_, ?_⟩
      · simp only; omega
      · simp only; omega
set_option maxRecDepth 100000 in
set_option maxHeartbeats 1000000 in
theorem rof_any (a : Nat) (ha : a < 18446744073709551616) (w : World) (hT : TabW w) :
    Calls Tryd.prog 7 #[.float .f64 a] w (GaveR w (ofR a).1 (ofR a).2) := by
  have OB := B3q.new w (.bool false) (.slice none 0 0) (.slice none 0 0) 25
  have hb0 : Below w.heap.size w (w.alloc (.cells #[.bool false, .slice none 0 0, .slice none 0 0] 25)) := (Below.refl _ _).alloc (Nat.le_refl _) _
  have c1 := Of_any a ha _ (tabW_below hT hb0)
  have hl := ofD_lm a
  have he := ofD_err a
  have hof : ofR a = if (ofD a).2 = 0 then odA (ofD a).1 else (none, (ofD a).2) := rfl
  rw [hof]
  clear hof
  obtain ⟨⟨⟨neg, xs, ex⟩, er⟩, hd⟩ : ∃ q, ofD a = q := ⟨_, rfl⟩
  rw [hd] at c1 hl he ⊢
  simp only at c1 hl he ⊢
  unfold Gave at c1
  simp only at c1
  go_enter Tryd.func7, Tryd.ntmps7
  go_upto_region 1 with fail
  generalize w.alloc (.cells #[.bool false, .slice none 0 0, .slice none 0 0] 25) = W0 at *
  go_upto_region 2 with (go_at_call 34; refine c1.mono ?_; rintro e w1 ⟨ao, cap, rfl, hr, _, b1⟩)
  have OB1 := OB.below b1
  have T1 := tabW_below hT (hb0.trans (b1.mono hb0.size))
  have hb1 := hb0.trans (b1.mono hb0.size)
  have DB := B3q.new w1 (.bool neg) (.slice ao xs.length cap) (.int .i64 ex) 34
  have OB2 := OB1.alloc (.cells #[.bool neg, .slice ao xs.length cap, .int .i64 ex] 34)
  have hb2 := hb1.alloc hb1.size (.cells #[.bool neg, .slice ao xs.length cap, .int .i64 ex] 34)
  have hr2 := hr.below ((Below.refl w1.heap.size w1).alloc (Nat.le_refl _) (.cells #[.bool neg, .slice ao xs.length cap, .int .i64 ex] 34))
  generalize w1.alloc (.cells #[.bool neg, .slice ao xs.length cap, .int .i64 ex] 34) = W2 at *
  obtain ⟨o0, o1, o2, q0, q1, q2, _, olt⟩ := id OB2
  obtain ⟨d0, d1, d2, _, _, _, _, dlt⟩ := id DB
  have u1 : ¬ w.heap.size = w1.heap.size := by have := OB1.lt; omega
  have u2 : ¬ w1.heap.size = w.heap.size := by omega
  clear OB OB1 hb1 hb0 T1 c1 b1 hr hT
  rcases he with rfl | rfl
  · simp only [if_true]
    have cO := rofd_any neg xs ex ao cap W2 hr2 hl.1 ⟨hl.2.1, hl.2.2⟩
    generalize odA ⟨neg, xs, ex⟩ = qq at *
    obtain ⟨o, er⟩ := qq
    simp only at cO ⊢
    cases o with
    | none =>
      unfold GaveR at cO ⊢
      go_wp2_with (go_at_call 10; refine cO.mono ?_; rintro e w3 ⟨rfl, b3⟩; have OB3 := OB2.below b3; obtain ⟨p0, p1, p2, r0, r1, r2, _, _⟩ := id OB3)
      exact bodyPost_ret (v := .tuple #[.agg #[.bool false, .slice none 0 0, .slice none 0 0], .int .i64 er]) (by simp [results, Tryd.results7, go_sem, p0, p1, p2]) rfl ⟨rfl, below_three (hb2.trans (b3.mono hb2.size)) (Nat.le_refl _) _ _ _⟩
    | some r =>
      obtain ⟨ng, N3, D3⟩ := r
      unfold GaveR at cO ⊢
      go_wp2_with (go_at_call 10; refine cO.mono ?_; rintro e w3 ⟨ro, rc, so, sc, rfl, hA3, hB3, b3⟩; have OB3 := OB2.below b3; obtain ⟨p0, p1, p2, r0, r1, r2, _, _⟩ := id OB3)
      exact bodyPost_ret (v := .tuple #[.agg #[.bool ng, .slice ro (nl N3) rc, .slice so (nl D3) sc], .int .i64 0]) (by simp [results, Tryd.results7, go_sem, p0, p1, p2]) rfl ⟨ro, rc, so, sc, rfl, hA3.threeB OB3 _ _ _, hB3.threeB OB3 _ _ _, below_three (hb2.trans (b3.mono hb2.size)) (Nat.le_refl _) _ _ _⟩
  · have e50 : ¬ ((5 : Int) = 0) := by decide
    simp only [if_neg e50]
    unfold GaveR
    go_wp2
    exact bodyPost_ret (v := .tuple #[.agg #[.bool false, .slice none 0 0, .slice none 0 0], .int .i64 5]) (by simp [results, Tryd.results7, go_sem, o0, o1, o2]) rfl ⟨rfl, below_three hb2 (Nat.le_refl _) _ _ _⟩
set_option maxRecDepth 100000 in
set_option maxHeartbeats 1000000 in
theorem rdivw_any (n1 n2 : Bool) (xs ys : List Nat) (k2 m2 : Nat) (ao1 bo1 ao2 bo2 : Option Addr) (ac1 bc1 ac2 bc2 : Nat) (w : World) (a1 : LRow w ao1 xs) (b1 : LRow w bo1 ys) (hL : Lm xs) (hM : Lm ys) (hT : TabW w) (hn : rtB n1 xs ys = false) :
    Calls Tryd.prog 13 #[.agg #[.bool n1, .slice ao1 xs.length ac1, .slice bo1 ys.length bc1], .agg #[.bool n2, .slice ao2 k2 ac2, .slice bo2 m2 bc2]] w (GaveR w none 2) := by
  have AB := ((B3q.new w (.bool n1) (.slice ao1 xs.length ac1) (.slice bo1 ys.length bc1) 25).alloc (.cells #[.bool n2, .slice ao2 k2 ac2, .slice bo2 m2 bc2] 25)).alloc (.cells #[.bool false, .slice none 0 0, .slice none 0 0] 25)
  have OB := B3q.new ((w.alloc (.cells #[.bool n1, .slice ao1 xs.length ac1, .slice bo1 ys.length bc1] 25)).alloc (.cells #[.bool n2, .slice ao2 k2 ac2, .slice bo2 m2 bc2] 25)) (.bool false) (.slice none 0 0) (.slice none 0 0) 25
  have hs1 : (w.alloc (.cells #[.bool n1, .slice ao1 xs.length ac1, .slice bo1 ys.length bc1] 25)).heap.size = w.heap.size + 1 := by simp
  have hs2 : ((w.alloc (.cells #[.bool n1, .slice ao1 xs.length ac1, .slice bo1 ys.length bc1] 25)).alloc (.cells #[.bool n2, .slice ao2 k2 ac2, .slice bo2 m2 bc2] 25)).heap.size = w.heap.size + 1 + 1 := by simp
  rw [hs2] at OB
  have hb0 : Below w.heap.size w (((w.alloc (.cells #[.bool n1, .slice ao1 xs.length ac1, .slice bo1 ys.length bc1] 25)).alloc (.cells #[.bool n2, .slice ao2 k2 ac2, .slice bo2 m2 bc2] 25)).alloc (.cells #[.bool false, .slice none 0 0, .slice none 0 0] 25)) := (((Below.refl _ _).alloc (Nat.le_refl _) _).alloc (by rw [hs1]; omega) _).alloc (by rw [hs2]; omega) _
  have r1 := rright_any n1 xs ys ao1 bo1 ac1 bc1 _ (a1.below hb0) (b1.below hb0) hL hM (tabW_below hT hb0)
  rw [hn] at r1
  unfold GaveR
  go_enter Tryd.func13, Tryd.ntmps13
  go_upto_region 1 with fail
  generalize ((w.alloc (.cells #[.bool n1, .slice ao1 xs.length ac1, .slice bo1 ys.length bc1] 25)).alloc (.cells #[.bool n2, .slice ao2 k2 ac2, .slice bo2 m2 bc2] 25)).alloc (.cells #[.bool false, .slice none 0 0, .slice none 0 0] 25) = W0 at *
  clear hs1 hs2 hT
  obtain ⟨x0, x1, x2, _, _, _, _, xlt⟩ := id AB
  obtain ⟨o0, o1, o2, q0, q1, q2, _, olt⟩ := id OB
  go_wp2_with (go_at_call 21; refine r1.mono ?_; rintro e w3 ⟨rfl, b3⟩; have OB3 := OB.below b3; obtain ⟨p0, p1, p2, r0, r1', r2, _, _⟩ := id OB3)
  exact bodyPost_ret (v := .tuple #[.agg #[.bool false, .slice none 0 0, .slice none 0 0], .int .i64 2]) (by simp [results, Tryd.results13, go_sem, p0, p1, p2]) rfl ⟨rfl, below_three (hb0.trans (b3.mono hb0.size)) (by omega) _ _ _⟩
set_option maxHeartbeats 400000 in
theorem rsignw_any (n : Bool) (xs ys : List Nat) (ao bo : Option Addr) (ac bc : Nat) (w : World) (h1 : LRow w ao xs) (h2 : LRow w bo ys) (hL : Lm xs) (hM : Lm ys) (hT : TabW w) (hn : rtB n xs ys = false) :
    Calls Tryd.prog 16 #[.agg #[.bool n, .slice ao xs.length ac, .slice bo ys.length bc]] w fun e w' => e = .returned (.tuple #[.int .i64 0, .int .i64 2]) ∧ Below w.heap.size w w' := by
  have AB := B3q.new w (.bool n) (.slice ao xs.length ac) (.slice bo ys.length bc) 25
  have hb0 : Below w.heap.size w (w.alloc (.cells #[.bool n, .slice ao xs.length ac, .slice bo ys.length bc] 25)) := (Below.refl _ _).alloc (Nat.le_refl _) _
  have r1 := rright_any n xs ys ao bo ac bc _ (h1.below hb0) (h2.below hb0) hL hM (tabW_below hT hb0)
  rw [hn] at r1
  go_enter Tryd.func16, Tryd.ntmps16
  go_upto_region 1 with fail
  generalize w.alloc (.cells #[.bool n, .slice ao xs.length ac, .slice bo ys.length bc] 25) = W0 at *
  obtain ⟨x0, x1, x2, _, _, _, _, xlt⟩ := id AB
  go_wp2_with (go_at_call 21; refine r1.mono ?_; rintro e w3 ⟨rfl, b3⟩)
  exact bodyPost_ret (v := .tuple #[.int .i64 0, .int .i64 2]) (by simp [results, Tryd.results16, go_sem]) rfl ⟨rfl, hb0.trans (b3.mono hb0.size)⟩
end Go.Proofs.YtmcnnnmlacpppaaDoor

namespace Go.Proofs.YtmcnnnmlacpppaaDoor
open Go.RowKit

/-- A later world. -/
structure LO7 (W : World) where
  val : World
  below : Below W.heap.size W val
theorem quiet_ops {P : Program} {ops : Array Oper} {C : World → Prop} {Q : Act → Prop} {Q' : Exit → Act → World → Prop} (hQ : ∀ a w, C w → Q a → Q' .normal a w) : ∀ (l : List Oper) (k : Nat) (a : Act) (w : World), (∀ j, ops[k + j]? = l[j]?) → C w → wpQuiet P ops C Q l a → wpOps P ops Q' (List.range' k l.length) a w
  | [], _, a, w, _, hC, h => hQ a w hC h
  | o :: rest, k, a, w, hl, hC, h => by
    have ho := hl 0
    simp only [Nat.add_zero, List.getElem?_cons_zero] at ho
    rw [List.length_cons, List.range'_succ, wpOps_cons]
    refine wpOp_of_qOp hC (fun a' w' hC' hK => quiet_ops hQ rest (k + 1) a' w' (fun j => by have := hl (j + 1); simpa [Nat.add_assoc, Nat.add_comm 1 j] using this) hC' hK) ?_
    unfold qOp
    simp only [ho]
    exact h
/-- A region that is not drawn. -/
theorem region_plain7 {P : Program} {id : Nat} {Q : Exit → Act → World → Prop} {a : Act} {w : World} {l : List Oper}
    (h : ∀ O : Array Oper, (∀ j : Nat, O[j]? = l.toArray[j]?) → wpQuiet P O (fun w' => ∃ u : LO7 w, w' = u.val) (fun a' => ∀ w', (∃ u : LO7 w, w' = u.val) → Q .normal a' w') l a) : (Code.region id l.toArray false).wp P Q a w := by
  refine wp_region ?_
  have := quiet_ops (P := P) (ops := l.toArray) (C := fun w' => ∃ u : LO7 w, w' = u.val) (Q := fun a' => ∀ w', (∃ u : LO7 w, w' = u.val) → Q .normal a' w') (Q' := Q) (fun a w hw h => h w hw) l 0 a w (fun j => by simp) ⟨⟨w, Below.refl _ _⟩, rfl⟩ (h _ (fun _ => rfl))
  rw [List.range_eq_range']
  simpa using this
/-- A region that is drawn. -/
theorem region_drawn7 {P : Program} {id : Nat} {Q : Exit → Act → World → Prop} {a : Act} {w : World} {l : List Oper} (hm : P.follows .mixedOrders = true) (hB : Region.lexB .any l.toArray = true)
    (h : ∀ O : Array Oper, (∀ j : Nat, O[j]? = l.toArray[j]?) → wpQuiet P O (fun w' => ∃ u : LO7 w, w' = u.val) (fun a' => ∀ w', (∃ u : LO7 w, w' = u.val) → Q .normal a' w') l a) : (Code.region id l.toArray true).wp P Q a w :=
  wp_region_quiet (C := fun w' => ∃ u : LO7 w, w' = u.val) hm hB ⟨⟨w.drew, (Below.refl _ _).drew⟩, rfl⟩ (h _ (fun _ => rfl))
/-- A region that is not drawn, step by step, the operations behind a letter. -/
theorem region_list7 {P : Program} {id : Nat} {Q : Exit → Act → World → Prop} {a : Act} {w : World} {l : List Oper}
    (h : ∀ O : Array Oper, (∀ j : Nat, O[j]? = l.toArray[j]?) → wpList P O Q l a w) : (Code.region id l.toArray false).wp P Q a w := wp_region_lit (h _ (fun _ => rfl))
theorem later7 {P : Program} {f : Nat} {args : Array Value} {W : World} {u : LO7 W} {v : Value} (h : Calls P f args u.val fun e w' => e = .returned v ∧ Below u.val.heap.size u.val w') : Calls P f args u.val fun e w'' => e = .returned v ∧ ∃ u' : LO7 W, w'' = u'.val :=
  h.mono fun _ w' ⟨he, hb⟩ => ⟨he, ⟨w', u.below.trans (hb.mono u.below.size)⟩, rfl⟩
theorem later7s {P : Program} {f : Nat} {args : Array Value} {W : World} {u : LO7 W} {v : Value} (h : Calls P f args u.val fun e w' => e = .returned v ∧ w' = u.val) : Calls P f args u.val fun e w'' => e = .returned v ∧ ∃ u' : LO7 W, w'' = u'.val :=
  h.mono fun _ _ ⟨he, hb⟩ => ⟨he, u, hb⟩
theorem LO7.cell {W : World} (u : LO7 W) {p : Addr} {v : Value} (h : W.cell? p = some v) : u.val.cell? p = some v := by
  rw [u.below.cell (World.block_lt_of_cell? W _ h)]; exact h
theorem LO7.any (W : World) : Nonempty (LO7 W) := ⟨⟨W, Below.refl _ _⟩⟩
theorem LO7.row {W : World} (u : LO7 W) {ao : Option Addr} {xs : List Nat} (h : LRow W ao xs) : LRow u.val ao xs := h.below u.below
theorem LO7.box {W : World} {b : Nat} {x y z : Value} (h : B3q W b x y z) (u : LO7 W) : u.val.cell? ⟨b, 0, none⟩ = some x ∧ u.val.cell? ⟨b, 1, none⟩ = some y ∧ u.val.cell? ⟨b, 2, none⟩ = some z := ⟨(h.below u.below).c0, (h.below u.below).c1, (h.below u.below).c2⟩
end Go.Proofs.YtmcnnnmlacpppaaDoor
