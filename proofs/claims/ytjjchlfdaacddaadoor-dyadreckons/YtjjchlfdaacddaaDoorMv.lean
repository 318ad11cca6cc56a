/- DyadReckons, whatever two dyads it is given: the walk (the library's table lying as its initialiser lays it). -/
import Derived.Test.YtjjchlfdaacddaaDoorMz
namespace Go.Proofs.YtjjchlfdaacddaaDoor
open Go.RowKit

theorem nrm_short (m e : Int) : (nrm m e).1.mag.length ≤ 256 := by
  by_cases h : (nrm m e).2 = 0
  · exact (right_exp (nrm_ok h).1).2.2
  · rw [nrm_exp h]; simp [dy0]
theorem addD_short (d e : Dy) : (addD d e).1.mag.length ≤ 256 := by
  unfold addD
  split
  · exact nrm_short _ _
  · simp [dy0]
theorem subD_short (d e : Dy) : (subD d e).1.mag.length ≤ 256 := by
  unfold subD
  split
  · exact nrm_short _ _
  · simp [dy0]
theorem mulD_short (d e : Dy) : (mulD d e).1.mag.length ≤ 256 := by
  unfold mulD
  split
  · exact nrm_short _ _
  · simp [dy0]
theorem negD_len (d : Dy) : (negD d).1.mag.length ≤ 256 := by
  unfold negD; split
  · rename_i h
    exact (right_exp h).2.2
  · simp [dy0]
/-- Both dyads as they came, the second still lent. -/
structure Rj (w : World) (a b : Dy) (ao bo : Option Addr) (cap bcap Q h : Nat) (wx : World) : Prop where
  qa : Hd wx w.heap.size a ao cap
  qb : Hd wx (w.heap.size + 1) b bo bcap
  py : Hd wx Q b (some ⟨h, 0, none⟩) (b.mag.length + 12)
  ly : Lent wx h b.mag
  bel : Below w.heap.size w wx
/-- Both dyads as they came. -/
structure Ri (w : World) (a b : Dy) (ao bo : Option Addr) (cap bcap : Nat) (wx : World) : Prop where
  qa : Hd wx w.heap.size a ao cap
  qb : Hd wx (w.heap.size + 1) b bo bcap
  bel : Below w.heap.size w wx
theorem Ri.below {w : World} {a b : Dy} {ao bo : Option Addr} {cap bcap : Nat} {wx wy : World} (k : Ri w a b ao bo cap bcap wx) (hb : Below wx.heap.size wx wy) : Ri w a b ao bo cap bcap wy :=
  ⟨k.qa.below hb, k.qb.below hb, k.bel.trans (hb.mono k.bel.size)⟩
theorem Rk.over {w : World} {a b : Dy} {ao bo : Option Addr} {cap bcap P Q g h : Nat} {wx wy : World} (k : Rk w a b ao bo cap bcap P Q g h wx) (hb : wx.grownBy wy (some g)) (oa : Old w.heap.size ao a) (ob : Old w.heap.size bo b) (g1 : w.heap.size + 1 < g) (gh : g ≠ h) (Qg : Q ≠ g) : Rj w a b ao bo cap bcap Q h wy :=
  ⟨k.qa.far' hb (by omega) oa (by omega), k.qb.far' hb (by omega) ob (by omega), k.py.far hb Qg (fun p e => by cases e; exact Ne.symm gh), k.ly.far hb (Ne.symm gh), below_far k.bel hb (by omega)⟩
theorem Rj.over {w : World} {a b : Dy} {ao bo : Option Addr} {cap bcap Q h : Nat} {wx wy : World} (k : Rj w a b ao bo cap bcap Q h wx) (hb : wx.grownBy wy (some h)) (oa : Old w.heap.size ao a) (ob : Old w.heap.size bo b) (h1 : w.heap.size + 1 < h) : Ri w a b ao bo cap bcap wy :=
  ⟨k.qa.far' hb (by omega) oa (by omega), k.qb.far' hb (by omega) ob (by omega), below_far k.bel hb (by omega)⟩
set_option maxHeartbeats 4000000 in
set_option maxRecDepth 100000 in
theorem reckons_law (a b : Dy) (ao bo : Option Addr) (cap bcap : Nat) (w : World) (hr : NS w ao cap a.mag) (hs : NS w bo bcap b.mag) (la : Lm a.mag) (lb : Lm b.mag) (hn : a.mag.length ≤ 17592186044416) (hm : b.mag.length ≤ 17592186044416) (hT : TabW w) :
    Calls Tryd.prog 5 #[.agg #[.bool a.neg, .slice ao a.mag.length cap, .int .i64 a.exp], .agg #[.bool b.neg, .slice bo b.mag.length bcap, .int .i64 b.exp]] w fun e w' => e = .returned (.bool true) ∧ Below w.heap.size w w' := by
  have n1 := addD_short a b
  have n2 := subD_short a b
  have n3 := mulD_short a b
  have n4 := negD_len a
  have A1 := fun W o c p q (h1 : LRow W o a.mag) (h2 : LRow W p b.mag) (t : TabW W) => Add_any a b o p c q W h1 h2 la lb t
  have A2 := fun W o c p q (h1 : LRow W o a.mag) (h2 : LRow W p b.mag) (t : TabW W) => Sub_any a b o p c q W h1 h2 la lb t
  have A3 := fun W o c p q (h1 : LRow W o a.mag) (h2 : LRow W p b.mag) (t : TabW W) => mul_any a b o p c q W h1 h2 la lb t
  have A4 := fun W o c (h1 : LRow W o a.mag) => neg_any a o c W h1 la
  have A5 := fun W o c p q (h1 : LRow W o a.mag) (h2 : LRow W p b.mag) => cmp_all a b o p c q W h1 h2 la lb
  have A6 := fun W o c (h1 : LRow W o a.mag) => sign_all a o c W h1 la
  have D1 := fun W (h1 : NS W ao cap a.mag) (h2 : NS W bo bcap b.mag) => dadd_any a b ao bo cap bcap W h1 h2 la lb
  have D2 := fun W (h1 : NS W ao cap a.mag) (h2 : NS W bo bcap b.mag) => dsub_any a b ao bo cap bcap W h1 h2 la lb
  have D3 := fun W (h1 : NS W ao cap a.mag) (h2 : NS W bo bcap b.mag) => dmul_any a b ao bo cap bcap W h1 h2 la lb
  have D4 := fun W (h1 : NS W ao cap a.mag) => dneg_any a ao cap W h1 la
  have D5 := fun W (h1 : NS W ao cap a.mag) (h2 : NS W bo bcap b.mag) => dcmp_all a b ao bo cap bcap W h1 h2 la lb
  have D6 := fun W (h1 : NS W ao cap a.mag) => dsign_all a ao cap W h1 la
  obtain ⟨⟨r1, k1⟩, x1⟩ : ∃ r, addD a b = r := ⟨_, rfl⟩
  obtain ⟨⟨r2, k2⟩, x2⟩ : ∃ r, subD a b = r := ⟨_, rfl⟩
  obtain ⟨⟨r3, k3⟩, x3⟩ : ∃ r, mulD a b = r := ⟨_, rfl⟩
  obtain ⟨⟨r4, k4⟩, x4⟩ : ∃ r, negD a = r := ⟨_, rfl⟩
  obtain ⟨⟨v5, k5⟩, x5⟩ : ∃ r, cmpD a b = r := ⟨_, rfl⟩
  obtain ⟨⟨v6, k6⟩, x6⟩ : ∃ r, signD a = r := ⟨_, rfl⟩
  rw [x1] at A1 D1 n1
  rw [x2] at A2 D2 n2
  rw [x3] at A3 D3 n3
  rw [x4] at A4 D4 n4
  rw [x5] at A5 D5
  rw [x6] at A6 D6
  simp only at n1 n2 n3 n4 A5 D5 A6 D6
  clear x1 x2 x3 x4 x5 x6
  go_enter Tryd.func5, Tryd.ntmps5
  go_upto_region 3 with (go_at_call 8; refine (awake_any _ (tabW_alloc (tabW_alloc hT _) _)).mono ?_; rintro e w1 ⟨rfl, hb1⟩)
  obtain ⟨⟨c0, c1, c2⟩, ⟨d0, d1, d2⟩, _, _⟩ := box2 hb1
  have ho1 := box2_old hb1
  have hs1 : w.heap.size + 1 < w1.heap.size := by have h := hb1.size; simp at h; omega
  have hra : LRow w1.drew ao a.mag := hr.1.below ho1.drew
  have hrb : LRow w1.drew bo b.mag := hs.1.below ho1.drew
  have hLa := fun W h => lentDyad_any a ao cap W h hr.2.1 hn
  have hLb := fun W h => lentDyad_any b bo bcap W h hs.2.1 hm
  have z000 : ¬ w1.heap.size = w.heap.size := by omega
  have z001 : ¬ w.heap.size = w1.heap.size := by omega
  have z010 : ¬ w1.heap.size = w.heap.size + 1 := by omega
  have z011 : ¬ w.heap.size + 1 = w1.heap.size := by omega
  have z100 : ¬ w1.heap.size + 1 = w.heap.size := by omega
  have z101 : ¬ w.heap.size = w1.heap.size + 1 := by omega
  have z110 : ¬ w1.heap.size + 1 = w.heap.size + 1 := by omega
  have z111 : ¬ w.heap.size + 1 = w1.heap.size + 1 := by omega
  have oa : Old w.heap.size ao a := fun p e h0 => by
    rcases hr.1 with h | ⟨b', off, e2, hc⟩
    · exact absurd h h0
    · rw [e] at e2; cases e2; exact World.block_lt_of_cell? w _ (hc 0 (by omega))
  have ob : Old w.heap.size bo b := fun p e h0 => by
    rcases hs.1 with h | ⟨b', off, e2, hc⟩
    · exact absurd h h0
    · rw [e] at e2; cases e2; exact World.block_lt_of_cell? w _ (hc 0 (by omega))
  clear hb1
  go_cut [34, 35, 36, 37, 5, 6] (fun _ _ _ _ s5 s6 wx => ∃ P Q g h M, s5 = .pointer (some ⟨P, 0, none⟩) ∧ s6 = .pointer (some ⟨Q, 0, none⟩) ∧ Rk w a b ao bo cap bcap P Q g h wx ∧ Rm w P Q g h M wx)
  case first =>
    go_region_held3 (fun w' => w'.cell? ⟨w.heap.size, 0, none⟩ = some (.bool a.neg) ∧ w'.cell? ⟨w.heap.size, 1, none⟩ = some (.slice ao a.mag.length cap) ∧ w'.cell? ⟨w.heap.size, 2, none⟩ = some (.int .i64 a.exp) ∧ w'.cell? ⟨w.heap.size + 1, 0, none⟩ = some (.bool b.neg) ∧ w'.cell? ⟨w.heap.size + 1, 1, none⟩ = some (.slice bo b.mag.length bcap) ∧ w'.cell? ⟨w.heap.size + 1, 2, none⟩ = some (.int .i64 b.exp)) (go_keep)
      (first
        | (go_at_call_of 9 (Value.agg #[.bool a.neg, .slice ao a.mag.length cap, .int .i64 a.exp]); refine (hLa _ (by first | exact hra | exact hra.alloc _ | exact (hra.alloc _).alloc _)).mono ?_; rintro e wa ⟨g, rfl, lg, gg, ba⟩; have Ba : Below w1.heap.size w1 wa := (show Below w1.heap.size w1 _ from (by first | exact (Below.refl _ _).drew | exact (Below.refl _ _).drew.alloc (Nat.le_refl _) _ | exact ((Below.refl _ _).drew.alloc (Nat.le_refl _) _).alloc (by simp) _)).trans (ba.mono (by first | (simp; done) | (simp; omega))); obtain ⟨i0, i1, i2⟩ := three_on Ba ⟨c0, c1, c2⟩; obtain ⟨j0, j1, j2⟩ := three_on Ba ⟨d0, d1, d2⟩; obtain ⟨hcA, hfA⟩ := oldc ba; have hzA := ba.size; (try simp at hzA); (try simp at gg); (try (have ean0 : ¬ wa.heap.size = w.heap.size := (by omega))); (try (have eam0 : ¬ w.heap.size = wa.heap.size := (by omega))); (try (have ean1 : ¬ wa.heap.size = w.heap.size + 1 := (by omega))); (try (have eam1 : ¬ w.heap.size + 1 = wa.heap.size := (by omega))); (try (have ean2 : ¬ wa.heap.size = w1.heap.size := (by omega))); (try (have eam2 : ¬ w1.heap.size = wa.heap.size := (by omega))); (try (have ean3 : ¬ wa.heap.size = w1.heap.size + 1 := (by omega))); (try (have eam3 : ¬ w1.heap.size + 1 = wa.heap.size := (by omega))); (try (have ebn0 : ¬ wa.heap.size + 1 = w.heap.size := (by omega))); (try (have ebm0 : ¬ w.heap.size = wa.heap.size + 1 := (by omega))); (try (have ebn1 : ¬ wa.heap.size + 1 = w.heap.size + 1 := (by omega))); (try (have ebm1 : ¬ w.heap.size + 1 = wa.heap.size + 1 := (by omega))); (try (have ebn2 : ¬ wa.heap.size + 1 = w1.heap.size := (by omega))); (try (have ebm2 : ¬ w1.heap.size = wa.heap.size + 1 := (by omega))); (try (have ebn3 : ¬ wa.heap.size + 1 = w1.heap.size + 1 := (by omega))); (try (have ebm3 : ¬ w1.heap.size + 1 = wa.heap.size + 1 := (by omega))); try (have hzA2 : w1.heap.size < wa.heap.size := (by omega)); try (have hzA3 : w1.heap.size + 1 < wa.heap.size := (by omega)))
        | (go_at_call 9; refine (hLb _ (by first | exact hrb.below (ndrew Ba) | exact (hrb.below (ndrew Ba)).alloc _ | exact ((hrb.below (ndrew Ba)).alloc _).alloc _)).mono ?_; rintro e wb ⟨h, rfl, lh, gh, bb⟩; have Bb : Below wa.heap.size wa wb := (show Below wa.heap.size wa _ from (by first | exact Below.refl _ _ | exact (Below.refl _ _).alloc (Nat.le_refl _) _ | exact ((Below.refl _ _).alloc (Nat.le_refl _) _).alloc (by simp) _)).trans (bb.mono (by first | (simp; done) | (simp; omega))); obtain ⟨k0, k1, k2⟩ := three_on Bb ⟨i0, i1, i2⟩; obtain ⟨l0, l1, l2⟩ := three_on Bb ⟨j0, j1, j2⟩; obtain ⟨hcB, hfB⟩ := oldc bb; have hzB := bb.size; (try simp at hzB); (try simp at gh); have lgl := lg.lt; (try (have ecn0 : ¬ wb.heap.size = w.heap.size := (by omega))); (try (have ecm0 : ¬ w.heap.size = wb.heap.size := (by omega))); (try (have ecn1 : ¬ wb.heap.size = w.heap.size + 1 := (by omega))); (try (have ecm1 : ¬ w.heap.size + 1 = wb.heap.size := (by omega))); (try (have ecn2 : ¬ wb.heap.size = w1.heap.size := (by omega))); (try (have ecm2 : ¬ w1.heap.size = wb.heap.size := (by omega))); (try (have ecn3 : ¬ wb.heap.size = w1.heap.size + 1 := (by omega))); (try (have ecm3 : ¬ w1.heap.size + 1 = wb.heap.size := (by omega))); (try (have ecn4 : ¬ wb.heap.size = wa.heap.size := (by omega))); (try (have ecm4 : ¬ wa.heap.size = wb.heap.size := (by omega))); (try (have ecn5 : ¬ wb.heap.size = wa.heap.size + 1 := (by omega))); (try (have ecm5 : ¬ wa.heap.size + 1 = wb.heap.size := (by omega))); (try (have edn0 : ¬ wb.heap.size + 1 = w.heap.size := (by omega))); (try (have edm0 : ¬ w.heap.size = wb.heap.size + 1 := (by omega))); (try (have edn1 : ¬ wb.heap.size + 1 = w.heap.size + 1 := (by omega))); (try (have edm1 : ¬ w.heap.size + 1 = wb.heap.size + 1 := (by omega))); (try (have edn2 : ¬ wb.heap.size + 1 = w1.heap.size := (by omega))); (try (have edm2 : ¬ w1.heap.size = wb.heap.size + 1 := (by omega))); (try (have edn3 : ¬ wb.heap.size + 1 = w1.heap.size + 1 := (by omega))); (try (have edm3 : ¬ w1.heap.size + 1 = wb.heap.size + 1 := (by omega))); (try (have edn4 : ¬ wb.heap.size + 1 = wa.heap.size := (by omega))); (try (have edm4 : ¬ wa.heap.size = wb.heap.size + 1 := (by omega))); (try (have edn5 : ¬ wb.heap.size + 1 = wa.heap.size + 1 := (by omega))); (try (have edm5 : ¬ wa.heap.size + 1 = wb.heap.size + 1 := (by omega))); try (have hzB2 : w1.heap.size < wb.heap.size := (by omega)); try (have hzB3 : w1.heap.size + 1 < wb.heap.size := (by omega)); try (have hzB4 : wa.heap.size < wb.heap.size := (by omega)); try (have hzB5 : wa.heap.size + 1 < wb.heap.size := (by omega))))
    all_goals go_wp2_with fail
    all_goals go_meet
    all_goals
      have lhl := lh.lt
      have kb : Rb w a b ao bo cap bcap g h wb := ⟨⟨k0, k1, k2, (hra.below (ndrew Ba)).below Bb⟩, ⟨l0, l1, l2, (hrb.below (ndrew Ba)).below Bb⟩, lg.below Bb, lh, (ho1.trans (Ba.mono ho1.size)).trans (Bb.mono (Nat.le_trans ho1.size Ba.size))⟩
      refine ⟨_, _, g, h, wb.heap.size, rfl, rfl, ?_, ?_⟩
      · first
          | with_reducible exact end_ab kb
          | with_reducible exact end_ba kb
          | (with_reducible refine end_sa (x0 := .bool false) (x1 := .slice none 0 0) (x2 := .int .i64 0) kb oa ob ?_ ?_ ?_ ?_ ?_ ?_) <;> (first | omega | go_simp)
          | (with_reducible refine end_sb (x0 := .bool false) (x1 := .slice none 0 0) (x2 := .int .i64 0) kb oa ob ?_ ?_ ?_ ?_ ?_ ?_) <;> (first | omega | go_simp)
          | (with_reducible refine end_ss (x0 := .bool false) (x1 := .slice none 0 0) (x2 := .int .i64 0) (y0 := .bool false) (y1 := .slice none 0 0) (y2 := .int .i64 0) kb oa ob ?_ ?_ ?_ ?_ ?_ ?_ ?_ ?_ ?_ ?_ ?_ ?_ ?_) <;> (first | omega | go_simp)
      · refine ⟨by omega, by omega, by omega, by omega, by omega, by omega, by omega, by omega, by omega, ?_⟩
        first | (simp; done) | (simp; omega)
  obtain ⟨P, Q, g, h, M, rfl, rfl, K, R⟩ := hcut
  obtain ⟨wq, hwq⟩ : ∃ wq, wq = wc := ⟨_, rfl⟩
  subst hwq
  obtain ⟨g1, h1, gh, Pg, Ph, Qg, Qh, gM, hM, Mx⟩ := R
  clear hra hrb hLa hLb c0 c1 c2 d0 d1 d2 ho1 hs1 z000 z001 z010 z011 z100 z101 z110 z111
  go_upto_region 4 with fail
  go_cut [39, 40, 41, 38, 42, 43, 7, 8] (fun _ _ _ _ _ _ sp se wx => ∃ S o c, sp = .pointer (some ⟨S, 0, none⟩) ∧ se = .int .i64 k1 ∧ Rs M wx S r1 o c ∧ Rk w a b ao bo cap bcap P Q g h wx ∧ M ≤ wx.heap.size)
  case first =>
    as_aux_lemma =>
      have hc := A1 wq _ (a.mag.length + 12) _ (b.mag.length + 12) K.px.row K.py.row (tabW_below hT K.bel)
      obtain ⟨a0, a1, a2, ar⟩ := id K.px
      obtain ⟨b0, b1, b2, br⟩ := id K.py
      go_wp2_with (go_at_call 23; refine hc.mono ?_; rintro e w2 ⟨o, c, rfl, hrow, hfr, hb⟩)
      go_meet
      have hs := hb.size
      have hb' := hb.alloc hb.size (.cells #[.bool r1.neg, .slice o r1.mag.length c, .int .i64 r1.exp] 24)
      exact ⟨_, o, c, rfl, rfl, ⟨Hd.new hrow, hfr.mono Mx, by omega⟩, K.below hb', Nat.le_trans Mx hb'.size⟩
  clear K Mx
  obtain ⟨S1, o1, c1, rfl, rfl, U1, K, Mx⟩ := hcut
  obtain ⟨wq, hwq⟩ : ∃ wq, wq = wc := ⟨_, rfl⟩
  subst hwq
  go_upto_region 5 with fail
  go_cut [45, 46, 47, 44, 48, 49, 9, 10] (fun _ _ _ _ _ _ sp se wx => ∃ S o c, sp = .pointer (some ⟨S, 0, none⟩) ∧ se = .int .i64 k2 ∧ Rs M wx S r2 o c ∧ Rs M wx S1 r1 o1 c1 ∧ Rk w a b ao bo cap bcap P Q g h wx ∧ M ≤ wx.heap.size)
  case first =>
    as_aux_lemma =>
      have hc := A2 wq _ (a.mag.length + 12) _ (b.mag.length + 12) K.px.row K.py.row (tabW_below hT K.bel)
      obtain ⟨a0, a1, a2, ar⟩ := id K.px
      obtain ⟨b0, b1, b2, br⟩ := id K.py
      go_wp2_with (go_at_call 24; refine hc.mono ?_; rintro e w2 ⟨o, c, rfl, hrow, hfr, hb⟩)
      go_meet
      have hs := hb.size
      have hb' := hb.alloc hb.size (.cells #[.bool r2.neg, .slice o r2.mag.length c, .int .i64 r2.exp] 24)
      exact ⟨_, o, c, rfl, rfl, ⟨Hd.new hrow, hfr.mono Mx, by omega⟩, U1.below hb', K.below hb', Nat.le_trans Mx hb'.size⟩
  clear K Mx U1
  obtain ⟨S2, o2, c2, rfl, rfl, U2, U1, K, Mx⟩ := hcut
  obtain ⟨wq, hwq⟩ : ∃ wq, wq = wc := ⟨_, rfl⟩
  subst hwq
  go_upto_region 6 with fail
  go_cut [51, 52, 53, 50, 54, 55, 11, 12] (fun _ _ _ _ _ _ sp se wx => ∃ S o c, sp = .pointer (some ⟨S, 0, none⟩) ∧ se = .int .i64 k3 ∧ Rs M wx S r3 o c ∧ Rs M wx S1 r1 o1 c1 ∧ Rs M wx S2 r2 o2 c2 ∧ Rk w a b ao bo cap bcap P Q g h wx ∧ M ≤ wx.heap.size)
  case first =>
    as_aux_lemma =>
      have hc := A3 wq _ (a.mag.length + 12) _ (b.mag.length + 12) K.px.row K.py.row (tabW_below hT K.bel)
      obtain ⟨a0, a1, a2, ar⟩ := id K.px
      obtain ⟨b0, b1, b2, br⟩ := id K.py
      go_wp2_with (go_at_call 25; refine hc.mono ?_; rintro e w2 ⟨o, c, rfl, hrow, hfr, hb⟩)
      go_meet
      have hs := hb.size
      have hb' := hb.alloc hb.size (.cells #[.bool r3.neg, .slice o r3.mag.length c, .int .i64 r3.exp] 24)
      exact ⟨_, o, c, rfl, rfl, ⟨Hd.new hrow, hfr.mono Mx, by omega⟩, U1.below hb', U2.below hb', K.below hb', Nat.le_trans Mx hb'.size⟩
  clear K Mx U1 U2
  obtain ⟨S3, o3, c3, rfl, rfl, U3, U1, U2, K, Mx⟩ := hcut
  obtain ⟨wq, hwq⟩ : ∃ wq, wq = wc := ⟨_, rfl⟩
  subst hwq
  go_upto_region 7 with fail
  go_cut [57, 58, 59, 56, 60, 61, 13, 14] (fun _ _ _ _ _ _ sp se wx => sp = .int .i64 v5 ∧ se = .int .i64 k5 ∧ Rs M wx S1 r1 o1 c1 ∧ Rs M wx S2 r2 o2 c2 ∧ Rs M wx S3 r3 o3 c3 ∧ Rk w a b ao bo cap bcap P Q g h wx ∧ M ≤ wx.heap.size)
  case first =>
    as_aux_lemma =>
      have hc := A5 wq _ (a.mag.length + 12) _ (b.mag.length + 12) K.px.row K.py.row
      obtain ⟨a0, a1, a2, ar⟩ := id K.px
      obtain ⟨b0, b1, b2, br⟩ := id K.py
      go_wp2_with (go_at_call 26; refine hc.mono ?_; rintro e w2 ⟨rfl, hb⟩)
      go_meet
      exact ⟨rfl, rfl, U1.below hb, U2.below hb, U3.below hb, K.below hb, Nat.le_trans Mx hb.size⟩
  clear K Mx U1 U2 U3
  obtain ⟨rfl, rfl, U1, U2, U3, K, Mx⟩ := hcut
  obtain ⟨wq, hwq⟩ : ∃ wq, wq = wc := ⟨_, rfl⟩
  subst hwq
  go_upto_region 8 with fail
  go_cut [63, 64, 62, 65, 66, 15, 16] (fun _ _ _ _ _ sp se wx => ∃ S o c, sp = .pointer (some ⟨S, 0, none⟩) ∧ se = .int .i64 k4 ∧ Rs M wx S r4 o c ∧ Rs M wx S1 r1 o1 c1 ∧ Rs M wx S2 r2 o2 c2 ∧ Rs M wx S3 r3 o3 c3 ∧ Rk w a b ao bo cap bcap P Q g h wx ∧ M ≤ wx.heap.size)
  case first =>
    as_aux_lemma =>
      have hc := A4 wq _ (a.mag.length + 12) K.px.row
      obtain ⟨a0, a1, a2, ar⟩ := id K.px
      go_wp2_with (go_at_call 27; refine hc.mono ?_; rintro e w2 ⟨o, c, rfl, hrow, hfr, hb⟩)
      go_meet
      have hs := hb.size
      have hb' := hb.alloc hb.size (.cells #[.bool r4.neg, .slice o r4.mag.length c, .int .i64 r4.exp] 24)
      exact ⟨_, o, c, rfl, rfl, ⟨Hd.new hrow, hfr.mono Mx, by omega⟩, U1.below hb', U2.below hb', U3.below hb', K.below hb', Nat.le_trans Mx hb'.size⟩
  clear K Mx U1 U2 U3
  obtain ⟨S4, o4, c4, rfl, rfl, U4, U1, U2, U3, K, Mx⟩ := hcut
  obtain ⟨wq, hwq⟩ : ∃ wq, wq = wc := ⟨_, rfl⟩
  subst hwq
  go_upto_region 9 with fail
  go_cut [68, 69, 67, 70, 71, 17, 18] (fun _ _ _ _ _ sp se wx => sp = .int .i64 v6 ∧ se = .int .i64 k6 ∧ Rs M wx S1 r1 o1 c1 ∧ Rs M wx S2 r2 o2 c2 ∧ Rs M wx S3 r3 o3 c3 ∧ Rs M wx S4 r4 o4 c4 ∧ Rk w a b ao bo cap bcap P Q g h wx ∧ M ≤ wx.heap.size)
  case first =>
    as_aux_lemma =>
      have hc := A6 wq _ (a.mag.length + 12) K.px.row
      obtain ⟨a0, a1, a2, ar⟩ := id K.px
      go_wp2_with (go_at_call 28; refine hc.mono ?_; rintro e w2 ⟨rfl, hb⟩)
      go_meet
      exact ⟨rfl, rfl, U1.below hb, U2.below hb, U3.below hb, U4.below hb, K.below hb, Nat.le_trans Mx hb.size⟩
  clear K Mx U1 U2 U3 U4
  obtain ⟨rfl, rfl, U1, U2, U3, U4, K, Mx⟩ := hcut
  obtain ⟨wq, hwq⟩ : ∃ wq, wq = wc := ⟨_, rfl⟩
  subst hwq
  go_upto_region 10 with fail
  go_cut [72, 73, 74, 75, 76, 77, 78, 79, 19] (fun _ _ _ _ _ _ _ _ s wx => s = .bool true ∧ Rs M wx S1 r1 o1 c1 ∧ Rs M wx S2 r2 o2 c2 ∧ Rs M wx S3 r3 o3 c3 ∧ Rs M wx S4 r4 o4 c4 ∧ Rk w a b ao bo cap bcap P Q g h wx ∧ M ≤ wx.heap.size)
  case first =>
    as_aux_lemma =>
      have hk1 := keptDyad_any a ao cap g wq K.qa.row K.lx hn
      have hk2 := fun W (k : Rk w a b ao bo cap bcap P Q g h W) => keptDyad_any b bo bcap h W k.qb.row k.ly hm
      obtain ⟨a0, a1, a2, ar⟩ := id K.px
      obtain ⟨b0, b1, b2, br⟩ := id K.qa
      go_wp2_with (first | (go_at_call_of 13 (Value.agg #[.bool a.neg, .slice ao a.mag.length cap, .int .i64 a.exp]); refine hk1.mono ?_; rintro e w2 ⟨rfl, hb⟩; have K2 := K.below hb; obtain ⟨e0, e1, e2, er⟩ := id K2.py; obtain ⟨f0, f1, f2, fr⟩ := id K2.qb) | (go_at_call 13; refine (hk2 _ K2).mono ?_; rintro e w3 ⟨rfl, hb3⟩))
      go_meet
      have hB := hb.trans (hb3.mono hb.size)
      exact ⟨rfl, U1.below hB, U2.below hB, U3.below hB, U4.below hB, K.below hB, Nat.le_trans Mx hB.size⟩
  clear K Mx U1 U2 U3 U4
  obtain ⟨rfl, U1, U2, U3, U4, K, Mx⟩ := hcut
  obtain ⟨wq, hwq⟩ : ∃ wq, wq = wc := ⟨_, rfl⟩
  subst hwq
  go_upto_region 11 with fail
  go_cut [80, 81] (fun _ _ wx => Rj w a b ao bo cap bcap Q h wx ∧ Rs M wx S1 r1 o1 c1 ∧ Rs M wx S2 r2 o2 c2 ∧ Rs M wx S3 r3 o3 c3 ∧ Rs M wx S4 r4 o4 c4)
  case first =>
    as_aux_lemma =>
      have hc := overDyad_any a g wq K.lx hn
      obtain ⟨a0, a1, a2, ar⟩ := id K.px
      go_wp2_with (go_at_call 14; refine hc.mono ?_; rintro e w2 ⟨rfl, hb⟩)
      go_meet
      exact ⟨K.over hb oa ob g1 gh Qg, U1.far hb gM, U2.far hb gM, U3.far hb gM, U4.far hb gM⟩
  clear K Mx U1 U2 U3 U4
  obtain ⟨J, U1, U2, U3, U4⟩ := hcut
  obtain ⟨wq, hwq⟩ : ∃ wq, wq = wc := ⟨_, rfl⟩
  subst hwq
  go_upto_region 12 with fail
  go_cut [82, 83] (fun _ _ wx => Ri w a b ao bo cap bcap wx ∧ Rs M wx S1 r1 o1 c1 ∧ Rs M wx S2 r2 o2 c2 ∧ Rs M wx S3 r3 o3 c3 ∧ Rs M wx S4 r4 o4 c4)
  case first =>
    as_aux_lemma =>
      have hc := overDyad_any b h wq J.ly hm
      obtain ⟨a0, a1, a2, ar⟩ := id J.py
      go_wp2_with (go_at_call 14; refine hc.mono ?_; rintro e w2 ⟨rfl, hb⟩)
      go_meet
      exact ⟨J.over hb oa ob h1, U1.far hb hM, U2.far hb hM, U3.far hb hM, U4.far hb hM⟩
  clear J U1 U2 U3 U4
  obtain ⟨I, U1, U2, U3, U4⟩ := hcut
  obtain ⟨wq, hwq⟩ : ∃ wq, wq = wc := ⟨_, rfl⟩
  subst hwq
  go_upto_region 13 with fail
  go_cut [85, 86, 87, 84, 88, 89, 20, 21] (fun _ _ _ _ _ _ sp se wx => ∃ S o c, sp = .pointer (some ⟨S, 0, none⟩) ∧ se = .int .i64 k1 ∧ Hd wx S r1 o c ∧ Ri w a b ao bo cap bcap wx ∧ Rs M wx S1 r1 o1 c1 ∧ Rs M wx S2 r2 o2 c2 ∧ Rs M wx S3 r3 o3 c3 ∧ Rs M wx S4 r4 o4 c4)
  case first =>
    as_aux_lemma =>
      have hc := D1 wq ⟨I.qa.row, hr.2⟩ ⟨I.qb.row, hs.2⟩
      obtain ⟨a0, a1, a2, ar⟩ := id I.qa
      obtain ⟨b0, b1, b2, br⟩ := id I.qb
      go_wp2_with (go_at_call 29; refine hc.mono ?_; rintro e w2 ⟨o, c, rfl, hrow, hfr, hb⟩)
      go_meet
      have hb' := hb.alloc hb.size (.cells #[.bool r1.neg, .slice o r1.mag.length c, .int .i64 r1.exp] 24)
      exact ⟨_, o, c, rfl, rfl, Hd.new hrow.1, I.below hb', U1.below hb', U2.below hb', U3.below hb', U4.below hb'⟩
  clear I U1 U2 U3 U4
  obtain ⟨T1, p1, q1, rfl, rfl, X1, I, U1, U2, U3, U4⟩ := hcut
  obtain ⟨wq, hwq⟩ : ∃ wq, wq = wc := ⟨_, rfl⟩
  subst hwq
  go_upto_region 14 with fail
  go_cut [91, 92, 93, 90, 94, 95, 22, 23] (fun _ _ _ _ _ _ sp se wx => ∃ S o c, sp = .pointer (some ⟨S, 0, none⟩) ∧ se = .int .i64 k2 ∧ Hd wx S r2 o c ∧ Ri w a b ao bo cap bcap wx ∧ Rs M wx S1 r1 o1 c1 ∧ Rs M wx S2 r2 o2 c2 ∧ Rs M wx S3 r3 o3 c3 ∧ Rs M wx S4 r4 o4 c4 ∧ Hd wx T1 r1 p1 q1)
  case first =>
    as_aux_lemma =>
      have hc := D2 wq ⟨I.qa.row, hr.2⟩ ⟨I.qb.row, hs.2⟩
      obtain ⟨a0, a1, a2, ar⟩ := id I.qa
      obtain ⟨b0, b1, b2, br⟩ := id I.qb
      go_wp2_with (go_at_call 30; refine hc.mono ?_; rintro e w2 ⟨o, c, rfl, hrow, hfr, hb⟩)
      go_meet
      have hb' := hb.alloc hb.size (.cells #[.bool r2.neg, .slice o r2.mag.length c, .int .i64 r2.exp] 24)
      exact ⟨_, o, c, rfl, rfl, Hd.new hrow.1, I.below hb', U1.below hb', U2.below hb', U3.below hb', U4.below hb', X1.below hb'⟩
  clear I U1 U2 U3 U4 X1
  obtain ⟨T2, p2, q2, rfl, rfl, X2, I, U1, U2, U3, U4, X1⟩ := hcut
  obtain ⟨wq, hwq⟩ : ∃ wq, wq = wc := ⟨_, rfl⟩
  subst hwq
  go_upto_region 15 with fail
  go_cut [97, 98, 99, 96, 100, 101, 24, 25] (fun _ _ _ _ _ _ sp se wx => ∃ S o c, sp = .pointer (some ⟨S, 0, none⟩) ∧ se = .int .i64 k3 ∧ Hd wx S r3 o c ∧ Ri w a b ao bo cap bcap wx ∧ Rs M wx S1 r1 o1 c1 ∧ Rs M wx S2 r2 o2 c2 ∧ Rs M wx S3 r3 o3 c3 ∧ Rs M wx S4 r4 o4 c4 ∧ Hd wx T1 r1 p1 q1 ∧ Hd wx T2 r2 p2 q2)
  case first =>
    as_aux_lemma =>
      have hc := D3 wq ⟨I.qa.row, hr.2⟩ ⟨I.qb.row, hs.2⟩
      obtain ⟨a0, a1, a2, ar⟩ := id I.qa
      obtain ⟨b0, b1, b2, br⟩ := id I.qb
      go_wp2_with (go_at_call 31; refine hc.mono ?_; rintro e w2 ⟨o, c, rfl, hrow, hfr, hb⟩)
      go_meet
      have hb' := hb.alloc hb.size (.cells #[.bool r3.neg, .slice o r3.mag.length c, .int .i64 r3.exp] 24)
      exact ⟨_, o, c, rfl, rfl, Hd.new hrow.1, I.below hb', U1.below hb', U2.below hb', U3.below hb', U4.below hb', X1.below hb', X2.below hb'⟩
  clear I U1 U2 U3 U4 X1 X2
  obtain ⟨T3, p3, q3, rfl, rfl, X3, I, U1, U2, U3, U4, X1, X2⟩ := hcut
  obtain ⟨wq, hwq⟩ : ∃ wq, wq = wc := ⟨_, rfl⟩
  subst hwq
  go_upto_region 16 with fail
  go_cut [103, 104, 105, 102, 106, 107, 26, 27] (fun _ _ _ _ _ _ sp se wx => sp = .int .i64 v5 ∧ se = .int .i64 k5 ∧ Ri w a b ao bo cap bcap wx ∧ Rs M wx S1 r1 o1 c1 ∧ Rs M wx S2 r2 o2 c2 ∧ Rs M wx S3 r3 o3 c3 ∧ Rs M wx S4 r4 o4 c4 ∧ Hd wx T1 r1 p1 q1 ∧ Hd wx T2 r2 p2 q2 ∧ Hd wx T3 r3 p3 q3)
  case first =>
    as_aux_lemma =>
      have hc := D5 wq ⟨I.qa.row, hr.2⟩ ⟨I.qb.row, hs.2⟩
      obtain ⟨a0, a1, a2, ar⟩ := id I.qa
      obtain ⟨b0, b1, b2, br⟩ := id I.qb
      go_wp2_with (go_at_call 32; refine hc.mono ?_; rintro e w2 ⟨rfl, hb⟩)
      go_meet
      exact ⟨rfl, rfl, I.below hb, U1.below hb, U2.below hb, U3.below hb, U4.below hb, X1.below hb, X2.below hb, X3.below hb⟩
  clear I U1 U2 U3 U4 X1 X2 X3
  obtain ⟨rfl, rfl, I, U1, U2, U3, U4, X1, X2, X3⟩ := hcut
  obtain ⟨wq, hwq⟩ : ∃ wq, wq = wc := ⟨_, rfl⟩
  subst hwq
  go_upto_region 17 with fail
  go_cut [109, 110, 108, 111, 112, 28, 29] (fun _ _ _ _ _ sp se wx => ∃ S o c, sp = .pointer (some ⟨S, 0, none⟩) ∧ se = .int .i64 k4 ∧ Hd wx S r4 o c ∧ Ri w a b ao bo cap bcap wx ∧ Rs M wx S1 r1 o1 c1 ∧ Rs M wx S2 r2 o2 c2 ∧ Rs M wx S3 r3 o3 c3 ∧ Rs M wx S4 r4 o4 c4 ∧ Hd wx T1 r1 p1 q1 ∧ Hd wx T2 r2 p2 q2 ∧ Hd wx T3 r3 p3 q3)
  case first =>
    as_aux_lemma =>
      have hc := D4 wq ⟨I.qa.row, hr.2⟩
      obtain ⟨a0, a1, a2, ar⟩ := id I.qa
      go_wp2_with (go_at_call 33; refine hc.mono ?_; rintro e w2 ⟨o, c, rfl, hrow, hfr, hb⟩)
      go_meet
      have hb' := hb.alloc hb.size (.cells #[.bool r4.neg, .slice o r4.mag.length c, .int .i64 r4.exp] 24)
      exact ⟨_, o, c, rfl, rfl, Hd.new hrow.1, I.below hb', U1.below hb', U2.below hb', U3.below hb', U4.below hb', X1.below hb', X2.below hb', X3.below hb'⟩
  clear I U1 U2 U3 U4 X1 X2 X3
  obtain ⟨T4, p4, q4, rfl, rfl, X4, I, U1, U2, U3, U4, X1, X2, X3⟩ := hcut
  obtain ⟨wq, hwq⟩ : ∃ wq, wq = wc := ⟨_, rfl⟩
  subst hwq
  go_upto_region 18 with fail
  go_cut [114, 115, 113, 116, 117, 30, 31] (fun _ _ _ _ _ sp se wx => sp = .int .i64 v6 ∧ se = .int .i64 k6 ∧ Ri w a b ao bo cap bcap wx ∧ Rs M wx S1 r1 o1 c1 ∧ Rs M wx S2 r2 o2 c2 ∧ Rs M wx S3 r3 o3 c3 ∧ Rs M wx S4 r4 o4 c4 ∧ Hd wx T1 r1 p1 q1 ∧ Hd wx T2 r2 p2 q2 ∧ Hd wx T3 r3 p3 q3 ∧ Hd wx T4 r4 p4 q4)
  case first =>
    as_aux_lemma =>
      have hc := D6 wq ⟨I.qa.row, hr.2⟩
      obtain ⟨a0, a1, a2, ar⟩ := id I.qa
      go_wp2_with (go_at_call 34; refine hc.mono ?_; rintro e w2 ⟨rfl, hb⟩)
      go_meet
      exact ⟨rfl, rfl, I.below hb, U1.below hb, U2.below hb, U3.below hb, U4.below hb, X1.below hb, X2.below hb, X3.below hb, X4.below hb⟩
  clear I U1 U2 U3 U4 X1 X2 X3 X4
  obtain ⟨rfl, rfl, I, U1, U2, U3, U4, X1, X2, X3, X4⟩ := hcut
  obtain ⟨wq, hwq⟩ : ∃ wq, wq = wc := ⟨_, rfl⟩
  subst hwq
  have kk1 : (k1 != k1) = false := by simp
  have kk2 : (k2 != k2) = false := by simp
  have kk3 : (k3 != k3) = false := by simp
  have kk4 : (k4 != k4) = false := by simp
  have kk5 : (k5 != k5) = false := by simp
  have kk6 : (k6 != k6) = false := by simp
  have vv5 : (v5 == v5) = true := by simp
  have vv6 : (v6 == v6) = true := by simp
  have E1 : ∀ W, LRow W o1 r1.mag → LRow W p1 r1.mag → Calls Tryd.prog 18 #[.agg #[.bool r1.neg, .slice o1 r1.mag.length c1, .int .i64 r1.exp], .agg #[.bool r1.neg, .slice p1 r1.mag.length q1, .int .i64 r1.exp]] W fun e w' => e = .returned (.bool true) ∧ Below W.heap.size W w' := fun W u v => by
    have hc := sameDyad_any r1 r1 o1 p1 c1 q1 W u v (by omega)
    rwa [eqB_self] at hc
  have E2 : ∀ W, LRow W o2 r2.mag → LRow W p2 r2.mag → Calls Tryd.prog 18 #[.agg #[.bool r2.neg, .slice o2 r2.mag.length c2, .int .i64 r2.exp], .agg #[.bool r2.neg, .slice p2 r2.mag.length q2, .int .i64 r2.exp]] W fun e w' => e = .returned (.bool true) ∧ Below W.heap.size W w' := fun W u v => by
    have hc := sameDyad_any r2 r2 o2 p2 c2 q2 W u v (by omega)
    rwa [eqB_self] at hc
  have E3 : ∀ W, LRow W o3 r3.mag → LRow W p3 r3.mag → Calls Tryd.prog 18 #[.agg #[.bool r3.neg, .slice o3 r3.mag.length c3, .int .i64 r3.exp], .agg #[.bool r3.neg, .slice p3 r3.mag.length q3, .int .i64 r3.exp]] W fun e w' => e = .returned (.bool true) ∧ Below W.heap.size W w' := fun W u v => by
    have hc := sameDyad_any r3 r3 o3 p3 c3 q3 W u v (by omega)
    rwa [eqB_self] at hc
  have E4 : ∀ W, LRow W o4 r4.mag → LRow W p4 r4.mag → Calls Tryd.prog 18 #[.agg #[.bool r4.neg, .slice o4 r4.mag.length c4, .int .i64 r4.exp], .agg #[.bool r4.neg, .slice p4 r4.mag.length q4, .int .i64 r4.exp]] W fun e w' => e = .returned (.bool true) ∧ Below W.heap.size W w' := fun W u v => by
    have hc := sameDyad_any r4 r4 o4 p4 c4 q4 W u v (by omega)
    rwa [eqB_self] at hc
  have I1 := I.bel
  obtain ⟨a0, a1, a2, a3⟩ := id U1.hd
  obtain ⟨b0, b1, b2, b3⟩ := id X1
  go_wp2_with (first
    | (go_at_call_of 18 (Value.agg #[.bool r1.neg, .slice o1 r1.mag.length c1, .int .i64 r1.exp]); refine (E1 _ a3 b3).mono ?_; rintro e y1 ⟨rfl, t1⟩; have U2 := U2.below t1; have X2 := X2.below t1; have U3 := U3.below t1; have X3 := X3.below t1; have U4 := U4.below t1; have X4 := X4.below t1; obtain ⟨e0, e1, e2, e3⟩ := id U2.hd; obtain ⟨f0, f1, f2, f3⟩ := id X2)
    | (go_at_call_of 18 (Value.agg #[.bool r2.neg, .slice o2 r2.mag.length c2, .int .i64 r2.exp]); refine (E2 _ e3 f3).mono ?_; rintro e y2 ⟨rfl, t2⟩; have U3 := U3.below t2; have X3 := X3.below t2; have U4 := U4.below t2; have X4 := X4.below t2; obtain ⟨i0, i1, i2, i3⟩ := id U3.hd; obtain ⟨j0, j1, j2, j3⟩ := id X3)
    | (go_at_call_of 18 (Value.agg #[.bool r3.neg, .slice o3 r3.mag.length c3, .int .i64 r3.exp]); refine (E3 _ i3 j3).mono ?_; rintro e y3 ⟨rfl, t3⟩; have U4 := U4.below t3; have X4 := X4.below t3; obtain ⟨l0, l1, l2, l3⟩ := id U4.hd; obtain ⟨m0, m1, m2, m3⟩ := id X4)
    | (go_at_call_of 18 (Value.agg #[.bool r4.neg, .slice o4 r4.mag.length c4, .int .i64 r4.exp]); refine (E4 _ l3 m3).mono ?_; rintro e y4 ⟨rfl, t4⟩))
  go_ret
  have B1 := I1.trans (t1.mono I1.size)
  have B2 := B1.trans (t2.mono B1.size)
  have B3 := B2.trans (t3.mono B2.size)
  exact ⟨rfl, B3.trans (t4.mono B3.size)⟩
end Go.Proofs.YtjjchlfdaacddaaDoor
