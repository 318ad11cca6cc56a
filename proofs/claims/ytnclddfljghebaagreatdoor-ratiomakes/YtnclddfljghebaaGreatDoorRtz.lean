/- Ratios: OfDyad. (Written by mkrtz.py.) -/
import Derived.Test.YtnclddfljghebaaGreatDoorRty
import Derived.Test.YtnclddfljghebaaGreatDoorZc
namespace Go.Proofs.YtnclddfljghebaaGreatDoor
open Go.RowKit

/-- What OfDyad tells. -/
def odA (d : Dy) : Option (Bool × Nat × Nat) × Int :=
  if rightB d then (if nl (vl d.mag * 2 ^ d.exp.toNat) ≤ 256 ∧ nl (2 ^ (-d.exp).toNat) ≤ 256 then some (d.neg, vl d.mag * 2 ^ d.exp.toNat, 2 ^ (-d.exp).toNat) else none, 3) else (none, 2)
theorem rightB_bd {d : Dy} (h : rightB d = true) : d.mag.length ≤ 256 ∧ -65536 ≤ d.exp ∧ d.exp ≤ 65536 := by
  unfold rightB at h
  split at h
  · simp at h
    omega
  · simp at h
    omega
theorem nl_grown {z L s : Nat} (hz : z < 2 ^ (64 * L)) (hs : s ≤ 65536) : nl (z * 2 ^ s) ≤ L + 1024 := by
  refine nl_le ?_
  have h1 : z * 2 ^ s < 2 ^ (64 * L) * 2 ^ s := Nat.mul_lt_mul_of_pos_right hz (Nat.two_pow_pos s)
  rw [← Nat.pow_add] at h1
  exact Nat.lt_of_lt_of_le h1 (Nat.pow_le_pow_right (by omega) (by omega))
theorem rmaxI {P : Program} {a b c : Int} (h : max a b = c) (ts : Array TypeId) (t : TypeId) (w : World) : (Builtin.max_ ts t #[.int .i64 a, .int .i64 b]).run P w = .ok (.int .i64 c) w := by
  have e : Builtin.max_ ts t #[.int .i64 a, .int .i64 b] = Builtin.max2 (.int .i64 a) (.int .i64 b) := by
    unfold Builtin.max_; simp
  rw [e]
  unfold Builtin.max2
  have e2 : (if b > a then b else a) = c := by rw [← h]; split <;> omega
  simp only [e2, Sem.run_pure]
set_option maxRecDepth 100000 in
set_option maxHeartbeats 2000000 in
theorem rofd_any (neg : Bool) (xs : List Nat) (ex : Int) (ao : Option Addr) (cap : Nat) (w : World) (h : LRow w ao xs) (hL : Lm xs) (he : -9223372036854775807 ≤ ex ∧ ex ≤ 9223372036854775807) :
    Calls Tryz.prog 17 #[.agg #[.bool neg, .slice ao xs.length cap, .int .i64 ex]] w (GaveR w (odA ⟨neg, xs, ex⟩).1 (odA ⟨neg, xs, ex⟩).2) := by
  have AB := (B3q.new w (.bool neg) (.slice ao xs.length cap) (.int .i64 ex) 27).alloc (.cells #[.bool false, .slice none 0 0, .slice none 0 0] 24)
  have OB := B3q.new (w.alloc (.cells #[.bool neg, .slice ao xs.length cap, .int .i64 ex] 27)) (.bool false) (.slice none 0 0) (.slice none 0 0) 24
  have hs1 : (w.alloc (.cells #[.bool neg, .slice ao xs.length cap, .int .i64 ex] 27)).heap.size = w.heap.size + 1 := by simp
  rw [hs1] at OB
  have hb0 : Below w.heap.size w ((w.alloc (.cells #[.bool neg, .slice ao xs.length cap, .int .i64 ex] 27)).alloc (.cells #[.bool false, .slice none 0 0, .slice none 0 0] 24)) := ((Below.refl _ _).alloc (Nat.le_refl _) _).alloc (by rw [hs1]; omega) _
  have A1 := h.below hb0
  have cr := fun w' (hw : Below w.heap.size w w') => right_any ⟨neg, xs, ex⟩ ao cap w' (h.below hw) hL
  simp only at cr
  have hod : odA ⟨neg, xs, ex⟩ = (if rightB ⟨neg, xs, ex⟩ then (if nl (vl xs * 2 ^ ex.toNat) ≤ 256 ∧ nl (2 ^ (-ex).toNat) ≤ 256 then some (neg, vl xs * 2 ^ ex.toNat, 2 ^ (-ex).toNat) else none, 3) else (none, 2)) := rfl
  have hbd := fun h => rightB_bd (d := ⟨neg, xs, ex⟩) h
  simp only at hbd
  rw [hod]
  clear hod
  generalize rightB ⟨neg, xs, ex⟩ = rb at *
  cases rb
  · simp only [Bool.false_eq_true, if_false]
    go_enter Tryz.func17, Tryz.ntmps17
    go_upto_region 1 with fail
    generalize (w.alloc (.cells #[.bool neg, .slice ao xs.length cap, .int .i64 ex] 27)).alloc (.cells #[.bool false, .slice none 0 0, .slice none 0 0] 24) = W0 at *
    obtain ⟨x0, x1, x2, _, _, _, _, xlt⟩ := id AB
    have cr1 := cr W0 hb0
    go_wp2_with (go_at_call 54; refine cr1.mono ?_; rintro e w1 ⟨rfl, b1⟩; have OB1 := OB.below b1; obtain ⟨o0, o1, o2, q0, q1, q2, _, _⟩ := id OB1)
    have b6 := hb0.trans (b1.mono hb0.size)
    exact bodyPost_ret (v := .tuple #[.agg #[.bool false, .slice none 0 0, .slice none 0 0], .int .i64 2]) (by simp [results, Tryz.results17, go_sem, o0, o1, o2]) rfl ⟨rfl, below_three b6 (by omega) _ _ _⟩
  · simp only [if_true]
    obtain ⟨n1, e1, e2⟩ := hbd rfl
    have hz := vl_lt hL
    have k1 : nl (vl xs * 2 ^ ex.toNat) ≤ 40000 := by have := nl_grown hz (s := ex.toNat) (by omega); omega
    have k2 : nl (2 ^ (-ex).toNat) ≤ 40000 := by have := nl_grown (z := 1) (L := 1) (s := (-ex).toNat) (by decide) (by omega); rw [Nat.one_mul] at this; omega
    have mx1 : max ex 0 = (ex.toNat : Int) := by omega
    have mx2 : max (-ex) 0 = ((-ex).toNat : Int) := by omega
    have hm1 := fun ts t W => rmaxI (P := Tryz.prog) mx1 ts t W
    have hm2 := fun ts t W => rmaxI (P := Tryz.prog) mx2 ts t W
    have wn : IntKind.i64.wrap (-ex) = -ex := wrapI_id (by omega) (by omega)
    clear mx1 mx2
    obtain ⟨NN, eN⟩ : ∃ NN, vl xs * 2 ^ ex.toNat = NN := ⟨_, rfl⟩
    obtain ⟨DD, eD⟩ : ∃ DD, 2 ^ (-ex).toNat = DD := ⟨_, rfl⟩
    simp only [eN, eD] at k1 k2 ⊢
    obtain ⟨o, eo⟩ : ∃ o, (if nl NN ≤ 256 ∧ nl DD ≤ 256 then some (neg, NN, DD) else none) = o := ⟨_, rfl⟩
    rw [eo]
    go_enter Tryz.func17, Tryz.ntmps17
    go_upto_region 1 with fail
    generalize (w.alloc (.cells #[.bool neg, .slice ao xs.length cap, .int .i64 ex] 27)).alloc (.cells #[.bool false, .slice none 0 0, .slice none 0 0] 24) = W0 at *
    obtain ⟨x0, x1, x2, _, _, _, _, xlt⟩ := id AB
    have cr1 := cr W0 hb0
    go_upto_region 3 with (go_at_call 54; refine cr1.mono ?_; rintro e w1 ⟨rfl, b1⟩)
    replace AB := AB.below b1
    replace OB := OB.below b1
    replace A1 := A1.below b1
    have hb2 := hb0.trans (b1.mono hb0.size)
    clear x0 x1 x2 xlt cr cr1 h hb0 b1 hbd hs1
    have u1 : ¬ w.heap.size = w.heap.size + 1 := by omega
    have u2 : ¬ w.heap.size + 1 = w.heap.size := by omega
    obtain ⟨x0, x1, x2, _, _, _, _, xlt⟩ := id AB
    obtain ⟨o0, o1, o2, q0, q1, q2, _, olt⟩ := id OB
    have HC : ∀ w', Below w1.heap.size w1 w' → w'.cell? ⟨w.heap.size, 0, none⟩ = some (.bool neg) ∧ w'.cell? ⟨w.heap.size, 1, none⟩ = some (.slice ao xs.length cap) ∧ w'.cell? ⟨w.heap.size, 2, none⟩ = some (.int .i64 ex) := fun w' h => ⟨(AB.below h).c0, (AB.below h).c1, (AB.below h).c2⟩
    have b1d := (Below.refl w1.heap.size w1).drew
    have cs := fun w' (h : Below w1.heap.size w1 w') => lshift_any xs ao cap (ex.toNat : Int) w' (A1.below h) hL (by omega) (by omega) (by omega)
    simp only [Int.toNat_natCast, eN] at cs
    have cp := fun w' => rpower_any (-ex).toNat (by omega) w'
    simp only [eD] at cp
    have ca := fun w' po pc qo qc (hp : LS w' po pc (lo NN)) (hq : LS w' qo qc (lo DD)) => answer_any neg NN DD po qo pc qc w' hp hq k1 k2
    simp only [eo] at ca
    clear k1 k2 hz eN eD eo
    generalize ex.toNat = s1 at *
    generalize (-ex).toNat = s2 at *
    have m0 := HC _ b1d
    cases o with
    | none =>
      unfold GaveR at ca
      go_region_held3 (fun w' => w'.cell? ⟨w.heap.size, 0, none⟩ = some (.bool neg) ∧ w'.cell? ⟨w.heap.size, 1, none⟩ = some (.slice ao xs.length cap) ∧ w'.cell? ⟨w.heap.size, 2, none⟩ = some (.int .i64 ex)) (go_keep)
        (first
          | (go_at_call 40; refine (ca _ _ _ _ _ hP4 hQ4).mono ?_; rintro e w5 ⟨rfl, hb5⟩; have b5 := b4.trans (hb5.mono b4.size); have k5 := HC _ b5; have OB5 := OB.below b5; obtain ⟨o0', o1', o2', q0', q1', q2', _, _⟩ := id OB5)
          | (go_at_call 56; refine (cp _).mono ?_; rintro e w4 ⟨qo, qc, rfl, hQ4, hb4⟩; have b4 := b3.trans (hb4.mono b3.size); have k4 := HC _ b4; have hP4 := hP3.below hb4)
          | (go_at_call 55; refine (cs _ b1d).mono ?_; rintro e w3 ⟨po, pc, rfl, hP3, hb3⟩; have b3 : Below w1.heap.size w1 w3 := b1d.trans hb3; have k3 := HC _ b3))
      all_goals
        have b6 := hb2.trans (b5.mono hb2.size)
        try go_wp2
        exact bodyPost_ret (v := .tuple #[.agg #[.bool false, .slice none 0 0, .slice none 0 0], .int .i64 3]) (by simp [results, Tryz.results17, go_sem, o0', o1', o2']) rfl ⟨rfl, below_three b6 (by omega) _ _ _⟩
    | some r =>
      obtain ⟨ng, N3, D3⟩ := r
      unfold GaveR at ca
      go_region_held3 (fun w' => w'.cell? ⟨w.heap.size, 0, none⟩ = some (.bool neg) ∧ w'.cell? ⟨w.heap.size, 1, none⟩ = some (.slice ao xs.length cap) ∧ w'.cell? ⟨w.heap.size, 2, none⟩ = some (.int .i64 ex)) (go_keep)
        (first
          | (go_at_call 40; refine (ca _ _ _ _ _ hP4 hQ4).mono ?_; rintro e w5 ⟨ro, rc, so, sc, rfl, hA3, hB3, hb5⟩; have b5 := b4.trans (hb5.mono b4.size); have k5 := HC _ b5; have OB5 := OB.below b5; obtain ⟨o0', o1', o2', q0', q1', q2', _, _⟩ := id OB5)
          | (go_at_call 56; refine (cp _).mono ?_; rintro e w4 ⟨qo, qc, rfl, hQ4, hb4⟩; have b4 := b3.trans (hb4.mono b3.size); have k4 := HC _ b4; have hP4 := hP3.below hb4)
          | (go_at_call 55; refine (cs _ b1d).mono ?_; rintro e w3 ⟨po, pc, rfl, hP3, hb3⟩; have b3 : Below w1.heap.size w1 w3 := b1d.trans hb3; have k3 := HC _ b3))
      all_goals
        have b6 := hb2.trans (b5.mono hb2.size)
        try go_wp2
        exact bodyPost_ret (v := .tuple #[.agg #[.bool ng, .slice ro (nl N3) rc, .slice so (nl D3) sc], .int .i64 0]) (by simp [results, Tryz.results17, go_sem, o0', o1', o2']) rfl ⟨ro, rc, so, sc, rfl, hA3.threeB OB5 _ _ _, hB3.threeB OB5 _ _ _, below_three b6 (by omega) _ _ _⟩
end Go.Proofs.YtnclddfljghebaaGreatDoor
