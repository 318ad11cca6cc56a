/- The document's narrow: a whole number times a power of two, by doubling and halving, told as a narrow float. -/
import Derived.Test.YtekejddblgkcgaaDoorTo0
import Derived.Test.YtekejddblgkcgaaDoorVa
namespace Go.Proofs.YtekejddblgkcgaaDoor
open Go.RowKit

/-- The float of n 2^k, 0 too. -/
def jN (n : Nat) (k : Int) : Nat := if n = 0 then 0 else jR n k
theorem jn_mono {n : Nat} {k u : Int} (h : n ≤ 16777216) (h1 : -1074 ≤ k) (h2 : k ≤ u) : jN n k ≤ jN n u := by
  unfold jN
  by_cases c : n = 0
  · rw [if_pos c, if_pos c]; omega
  · rw [if_neg c, if_neg c]; exact jR_mono c (by omega) h1 h2
theorem jn_dbl {n : Nat} {k u : Int} (h : n ≤ 16777216) (h1 : -1074 ≤ k) (h2 : k + 1 ≤ u) (h3 : jN n u < 9218868437227405312) : floatBits .mul .f64 (jN n k) 4611686018427387904 = some (jN n (k + 1)) := by
  have hm := jn_mono (n := n) (k := k + 1) (u := u) h (by omega) h2
  unfold jN at *
  by_cases c : n = 0
  · rw [if_pos c, if_pos c]; exact two_nought.1
  · rw [if_neg c] at *
    rw [if_neg c] at *
    exact dbl_step c (by omega) h1 (by omega)
theorem jn_hlf {n : Nat} {k : Int} (h : n ≤ 16777216) (h1 : -1074 ≤ k) (h2 : k < 0) : floatBits .quo .f64 (jN n (k + 1)) 4611686018427387904 = some (jN n k) := by
  unfold jN
  by_cases c : n = 0
  · rw [if_pos c, if_pos c]; exact two_nought.2
  · rw [if_neg c, if_neg c]
    exact hlf_step c (by omega) h1 h2
theorem jn_of {n : Nat} (h : n ≤ 16777216) : floatOfInt .f64 (n : Int) = jN n 0 := by
  unfold jN
  by_cases c : n = 0
  · subst c; rw [if_pos rfl]; decide +kernel
  · rw [if_neg c, (jR_zero c (by omega)).1]
    exact ofInt_eq c (by omega)
theorem jn_wd {r n : Nat} {u : Int} (hl : n ≤ 16777216) (hu : -149 ≤ u) (h : S.val r = n * 2 ^ (u + 149).toNat) : jN n u = wd r := by
  unfold jN
  by_cases c : n = 0
  · rw [if_pos c]
    rw [c, Nat.zero_mul, ← S.val_zero] at h
    rw [S.val_inj h]; rfl
  · rw [if_neg c]; exact jr_wd c hl hu h
theorem bk_word (s : Bool) {r : Nat} (hr : r < 2139095040) : bk (Ieee.single.word s r) = Ieee.double.word s (wd r) := by
  obtain ⟨g1, g2, _, _⟩ := s_word s r (by omega)
  unfold bk wr
  rw [g1, g2, if_neg (by omega)]
set_option maxRecDepth 100000 in
set_option maxHeartbeats 1000000 in
theorem nar_any (n : Nat) (e : Int) (neg : Bool) (r : Nat) (hn : n ≤ 16777216) (h1 : -149 ≤ e) (h2 : e ≤ 2000) (hr : r < 2139095040) (hv : S.val r = n * 2 ^ (e + 149).toNat) (w : World) :
    Calls Tryd.prog 29 #[.int .u64 n, .int .i64 e, .bool neg] w fun q w' => q = .returned (.float .f32 (Ieee.single.word neg r)) ∧ w' = w := by
  have hw := jn_wd hn h1 hv
  have hfin := wd_fin hr
  obtain ⟨g1, g2, g3, g4⟩ := s_word neg r (by omega)
  have hb := bk_word neg hr
  have hc := narrow_num Tryd.underlying22 Tryd.underlying25 g3 g4
  have hlt : jN n e < 9218868437227405312 := by omega
  have h0 := jn_of hn
  have hu : ∀ b, Op.unary .neg (.float .f64 b) = pure (.float .f64 (Op.negFloat .f64 b)) := fun _ => rfl
  have hng : neg = true → Op.negFloat .f64 (jN n e) = bk (Ieee.single.word neg r) := fun h => by
    rw [hb, hw, h, word_neg]; exact neg_word (by omega)
  have hps : neg = false → jN n e = bk (Ieee.single.word neg r) := fun h => by
    rw [hb, hw, h, word_pos]
  have HN : Hid (n ≤ 16777216) := hn
  have HL : Hid (jN n e < 9218868437227405312) := hlt
  have HG : Hid (neg = true → Op.negFloat .f64 (jN n e) = bk (Ieee.single.word neg r)) := hng
  have HP : Hid (neg = false → jN n e = bk (Ieee.single.word neg r)) := hps
  clear hn hlt hng hps hb hw hfin hv g1 g2 g3 g4
  go_enter Tryd.func29, Tryd.ntmps29
  go_wp2
  go_loop [1, 7] (fun ev sv => ∃ x : Int, ev = .int .i64 x ∧ sv = .float .f64 (jN n (e - x)) ∧ (0 ≤ x ∧ x ≤ e ∨ x = e ∧ e ≤ 0)) (fun ev _ => (intOf ev).toNat)
  case atStart => exact ⟨e, rfl, by rw [show e - e = 0 by omega, ← h0]; try rfl, by omega⟩
  case round =>
    obtain ⟨x, rfl, rfl, hx⟩ := hrel
    by_cases hx0 : 0 < x
    · have hst := jn_dbl (n := n) (k := e - x) (u := e) HN.out (by omega) (by omega) HL.out
      have hm := fun w => run_float_arith (P := Tryd.prog) w .mul 22 .f64 _ _ _ hst
      have HX : Hid (0 ≤ x ∧ x ≤ e ∨ x = e ∧ e ≤ 0) := hx
      have hxb : x ≤ 2000 := by omega
      clear hst hx
      go_wp2
      go_round
      case rel => exact ⟨x - 1, by go_num, by rw [show e - (x - 1) = e - x + 1 by omega], by have := HX.out; omega⟩
      case measure => simp [intOf]; omega
    · have hx1 : x ≤ 0 := by omega
      have hx2 : -1074 ≤ x := by omega
      have hx3 : x = 0 ∨ e ≤ x := by omega
      clear hx
      go_wp2
      go_loop [1, 7] (fun ev sv => ∃ y : Int, ev = .int .i64 y ∧ sv = .float .f64 (jN n (e - y)) ∧ y ≤ 0 ∧ -1074 ≤ y ∧ (y = 0 ∨ e ≤ y)) (fun ev _ => (-(intOf ev)).toNat)
      case atStart => exact ⟨x, rfl, rfl, hx1, hx2, hx3⟩
      case round =>
        obtain ⟨y, rfl, rfl, k1, k2, k3⟩ := hrel
        clear hx1 hx2 hx3
        by_cases hy0 : y < 0
        · have hst := jn_hlf (n := n) (k := e - y - 1) HN.out (by omega) (by omega)
          rw [show e - y - 1 + 1 = e - y by omega] at hst
          have hm := fun w => run_float_arith (P := Tryd.prog) w .quo 22 .f64 _ _ _ hst
          have hy2 : -2000 < y := by omega
          have HK : Hid (y = 0 ∨ e ≤ y) := k3
          clear hst k3
          go_wp2
          go_round
          case rel => exact ⟨y + 1, by go_num, by rw [show e - (y + 1) = e - y - 1 by omega], by omega, by omega, by have := HK.out; omega⟩
          case measure => simp [intOf]; omega
        · have hy : y = 0 := by omega
          subst hy
          rw [show e - 0 = e by omega]
          clear k1 k2 k3 hy0
          cases hg : neg
          · have e1 := HP.out hg
            rw [hg] at e1 hc
            rw [e1]
            go_wp2
            go_ret
            exact ⟨rfl, rfl⟩
          · have e1 := HG.out hg
            rw [hg] at e1 hc
            go_wp2
            go_ret
            exact ⟨rfl, rfl⟩
end Go.Proofs.YtekejddblgkcgaaDoor
