/- What Cmp answers, the program's and the reference's, of any two dyads. -/
import Derived.Test.YtnjahgfcijckcaaGreatDoorZl
import Derived.Test.YtnjahgfcijckcaaGreatDoorDx
import Derived.Test.YtnjahgfcijckcaaGreatDoorZp
import Derived.Test.YtnjahgfcijckcaaGreatDoorK2
namespace Go.Proofs.YtnjahgfcijckcaaGreatDoor

theorem qd_sign {d : Dy} (h : rightB d = true) : qd d = sgD d * (sz d : Int) ∧ ((sgD d = 0 ∧ sz d = 0) ∨ (sgD d = 1 ∧ 0 < sz d) ∨ (sgD d = -1 ∧ 0 < sz d)) := by
  rcases right_cases h with rfl | ⟨hn, hc⟩
  · refine ⟨?_, Or.inl ⟨rfl, ?_⟩⟩
    · unfold qd; rw [show sv dy0 = 0 from rfl, show sgD dy0 = 0 from rfl, Int.zero_mul, Int.zero_mul]
    · unfold sz; rw [show vl dy0.mag = 0 from rfl, Nat.zero_mul]
  · have hv : vl d.mag ≠ 0 := vl_ne_last hn hc.2.2.1
    have hp : 0 < sz d := Nat.mul_pos (Nat.pos_of_ne_zero hv) (Nat.pow_pos (by omega))
    have hs : (sz d : Int) = (vl d.mag : Int) * 2 ^ (d.exp + 65536).toNat := by unfold sz; push_cast; rfl
    cases hg : d.neg
    · have e : sgD d = 1 := by unfold sgD; rw [if_neg hn, hg]; rfl
      refine ⟨?_, Or.inr (Or.inl ⟨e, hp⟩)⟩
      rw [e, hs, Int.one_mul]
      unfold qd sv
      rw [hg]; rfl
    · have e : sgD d = -1 := by unfold sgD; rw [if_neg hn, hg]; rfl
      refine ⟨?_, Or.inr (Or.inr ⟨e, hp⟩)⟩
      rw [e, hs]
      unfold qd sv
      rw [hg, if_pos rfl, Int.neg_mul, Int.neg_mul, Int.one_mul]

theorem cmp_val {a b : Dy} (ra : rightB a = true) (rb : rightB b = true) :
    sgI (qd a - qd b) = if sgD a ≠ sgD b then cmpI (sgD a) (sgD b) else if sgD a = 0 then 0 else sgD a * cmpI (sz a) (sz b) := by
  obtain ⟨qa, ha⟩ := qd_sign ra
  obtain ⟨qb, hb⟩ := qd_sign rb
  rw [qa, qb]
  generalize (sgD a) = x at *
  generalize (sgD b) = y at *
  generalize sz a = m at *
  generalize sz b = n at *
  clear qa qb ra rb
  rcases ha with ⟨rfl, rfl⟩ | ⟨rfl, hm⟩ | ⟨rfl, hm⟩ <;> rcases hb with ⟨rfl, rfl⟩ | ⟨rfl, hn⟩ | ⟨rfl, hn⟩ <;> simp [sgI, cmpI] <;> (repeat' split) <;> omega
end Go.Proofs.YtnjahgfcijckcaaGreatDoor

namespace Go.Proofs.YtnjahgfcijckcaaGreatDoor
open Go.RowKit

/-- A dyad in a box. -/
structure Hd (w : World) (p : Nat) (d : Dy) (ao : Option Addr) (cap : Nat) : Prop where
  c0 : w.cell? ⟨p, 0, none⟩ = some (.bool d.neg)
  c1 : w.cell? ⟨p, 1, none⟩ = some (.slice ao d.mag.length cap)
  c2 : w.cell? ⟨p, 2, none⟩ = some (.int .i64 d.exp)
  row : LRow w ao d.mag
theorem Hd.below {w w' : World} {p : Nat} {d : Dy} {ao : Option Addr} {cap : Nat} (h : Hd w p d ao cap) (hb : Below w.heap.size w w') : Hd w' p d ao cap := by
  obtain ⟨c0, c1, c2⟩ := three_on hb ⟨h.c0, h.c1, h.c2⟩
  exact ⟨c0, c1, c2, h.row.below hb⟩
/-- The box that a result is stored in. -/
theorem Hd.new {w : World} {d : Dy} {ao : Option Addr} {cap : Nat} (h : LRow w ao d.mag) : Hd (w.alloc (.cells #[.bool d.neg, .slice ao d.mag.length cap, .int .i64 d.exp] 27)) w.heap.size d ao cap := by
  refine ⟨?_, ?_, ?_, h.alloc _⟩ <;> go_simp
end Go.Proofs.YtnjahgfcijckcaaGreatDoor

namespace Go.Proofs.YtnjahgfcijckcaaGreatDoor
open Go.RowKit

set_option maxHeartbeats 2000000 in
set_option maxRecDepth 100000 in
theorem Cmp_right (a b : Dy) (ao bo : Option Addr) (cap bcap : Nat) (w : World) (hr : LRow w ao a.mag) (hs : LRow w bo b.mag) (la : Lm a.mag) (lb : Lm b.mag) (ra : rightB a = true) (rb : rightB b = true) :
    Calls Tryz.prog 60 #[.agg #[.bool a.neg, .slice ao a.mag.length cap, .int .i64 a.exp], .agg #[.bool b.neg, .slice bo b.mag.length bcap, .int .i64 b.exp]] w fun e w' => e = .returned (.tuple #[.int .i64 (sgI (qd a - qd b)), .int .i64 0]) ∧ Below w.heap.size w w' := by
  rw [cmp_val ra rb]
  have cra := fun w' h => right_any a ao cap w' h la
  have crb := fun w' h => right_any b bo bcap w' h lb
  rw [ra] at cra
  rw [rb] at crb
  have xa := right_exp ra
  have xb := right_exp rb
  have csz := fun w' h h' (a0 : vl a.mag ≠ 0) (b0 : vl b.mag ≠ 0) => cmpSizes_any a b ao bo cap bcap w' h h' la lb xa.2.2 xb.2.2 a0 b0 xa.1 xa.2.1 xb.1 xb.2.1
  have csa := fun w' => sign_any a ao cap w'
  have csb := fun w' => sign_any b bo bcap w'
  obtain ⟨_, ha⟩ := qd_sign ra
  obtain ⟨_, hb⟩ := qd_sign rb
  have va : 0 < sz a → vl a.mag ≠ 0 := fun h h0 => by unfold sz at h; rw [h0, Nat.zero_mul] at h; omega
  have vb : 0 < sz b → vl b.mag ≠ 0 := fun h h0 => by unfold sz at h; rw [h0, Nat.zero_mul] at h; omega
  generalize sgD a = x at *
  generalize sgD b = y at *
  have bx : -1 ≤ x ∧ x ≤ 1 := by omega
  clear xa xb
  go_enter Tryz.func60, Tryz.ntmps60
  go_upto_region 1 with fail
  go_cut [7, 8, 9, 10, 11, 12, 13, 14] (fun _ _ _ _ _ _ _ s14 wx => s14 = .bool false ∧ Hd wx w.heap.size a ao cap ∧ Hd wx (w.heap.size + 1) b bo bcap ∧ Below w.heap.size w wx)
  case first =>
    go_wp2_with (first
      | (go_at_call_of 37 (Value.agg #[Value.bool a.neg, Value.slice ao a.mag.length cap, Value.int IntKind.i64 a.exp]); refine (cra _ ((hr.alloc _).alloc _)).mono ?_; rintro e w1 ⟨rfl, hb1⟩; obtain ⟨⟨c0, c1, c2⟩, ⟨d0, d1, d2⟩, _, _⟩ := box2 hb1; have ho1 := box2_old hb1)
      | (go_at_call_of 37 (Value.agg #[Value.bool b.neg, Value.slice bo b.mag.length bcap, Value.int IntKind.i64 b.exp]); refine (crb _ (hs.below ho1)).mono ?_; rintro e w2 ⟨rfl, hb2⟩))
    go_meet
    exact ⟨rfl, Hd.below ⟨c0, c1, c2, hr.below ho1⟩ hb2, Hd.below ⟨d0, d1, d2, hs.below ho1⟩ hb2, ho1.trans (hb2.mono ho1.size)⟩
  obtain ⟨rfl, Ha, Hb, hB⟩ := hcut
  obtain ⟨wq, hwq⟩ : ∃ wq, wq = wc := ⟨_, rfl⟩
  subst hwq
  go_upto_region 3 with fail
  go_cut [15, 16, 6] (fun _ _ s6 wx => s6 = .int .i64 x ∧ Hd wx w.heap.size a ao cap ∧ Hd wx (w.heap.size + 1) b bo bcap ∧ Below w.heap.size w wx)
  case first =>
    obtain ⟨a0, a1, a2, ar⟩ := Ha
    go_wp2_with (go_at_call 81; refine (csa _).mono ?_; rintro e w1 ⟨rfl, hb1⟩)
    go_meet
    exact ⟨rfl, Hd.below ⟨a0, a1, a2, ar⟩ hb1, Hb.below hb1, hB.trans (hb1.mono hB.size)⟩
  obtain ⟨rfl, Ha, Hb, hB⟩ := hcut
  obtain ⟨wq, hwq⟩ : ∃ wq, wq = wc := ⟨_, rfl⟩
  subst hwq
  go_upto_region 4 with fail
  go_cut [17, 18, 19, 20] (fun _ _ _ s20 wx => s20 = .bool (x != y) ∧ Hd wx w.heap.size a ao cap ∧ Hd wx (w.heap.size + 1) b bo bcap ∧ Below w.heap.size w wx)
  case first =>
    obtain ⟨a0, a1, a2, ar⟩ := Hb
    go_wp2_with (go_at_call 81; refine (csb _).mono ?_; rintro e w1 ⟨rfl, hb1⟩)
    go_meet
    exact ⟨rfl, Ha.below hb1, Hd.below ⟨a0, a1, a2, ar⟩ hb1, hB.trans (hb1.mono hB.size)⟩
  obtain ⟨rfl, Ha, Hb, hB⟩ := hcut
  obtain ⟨wq, hwq⟩ : ∃ wq, wq = wc := ⟨_, rfl⟩
  subst hwq
  obtain ⟨a0, a1, a2, ar⟩ := Ha
  obtain ⟨b0, b1, b2, br⟩ := Hb
  cases hxy : (x != y)
  · obtain rfl : x = y := by simpa using hxy
    cases h0 : (x == 0)
    · have hx0 : x ≠ 0 := by simpa using h0
      have hv1 := va (by omega)
      have hv2 := vb (by omega)
      have hm := cmpI_bd (sz a) (sz b)
      have hwr : IntKind.i64.wrap (x * cmpI (sz a) (sz b)) = x * cmpI (sz a) (sz b) := by
        have : x = 1 ∨ x = -1 := by omega
        rw [IntKind.wrap_i64]
        rcases this with h | h <;> rw [h] <;> omega
      clear ha hb va vb bx
      go_wp2_with (go_at_call 83; refine (csz _ ar br hv1 hv2).mono ?_; rintro e w1 ⟨rfl, hb1⟩)
      exact bodyPost_ret (v := .tuple #[.int .i64 (x * cmpI (sz a) (sz b)), .int .i64 0]) (by simp [results, Tryz.results60, go_sem]) rfl ⟨by first | rfl | (simp [hx0]; done), hB.trans (hb1.mono hB.size)⟩
    · have hx0 : x = 0 := by simpa using h0
      clear ha hb va vb bx
      go_wp2
      exact bodyPost_ret (v := .tuple #[.int .i64 0, .int .i64 0]) (by simp [results, Tryz.results60, go_sem]) rfl ⟨by first | rfl | (simp [hx0]; done), hB⟩
  · have e : x ≠ y := by simpa using hxy
    clear ha hb va vb bx
    go_wp2_with (first | (go_at_call 81; refine (csb _).mono ?_; rintro e w1 ⟨rfl, hb1⟩) | (go_at_call 82; refine (cmpInt_any _ _ _).mono ?_; rintro e w2 ⟨rfl, hw2⟩; subst hw2))
    exact bodyPost_ret (v := .tuple #[.int .i64 (cmpI x y), .int .i64 0]) (by simp [results, Tryz.results60, go_sem]) rfl ⟨rfl, hB.trans (hb1.mono hB.size)⟩
end Go.Proofs.YtnjahgfcijckcaaGreatDoor

namespace Go.Proofs.YtnjahgfcijckcaaGreatDoor
open Go.RowKit

set_option maxHeartbeats 2000000 in
theorem cmp_arg (a b : Dy) (ao bo : Option Addr) (cap bcap : Nat) (w : World) (hr : LRow w ao a.mag) (hs : LRow w bo b.mag) (hL : Lm a.mag) (hM : Lm b.mag) (h : rightB a = false ∨ rightB b = false) :
    Calls Tryz.prog 60 #[.agg #[.bool a.neg, .slice ao a.mag.length cap, .int .i64 a.exp], .agg #[.bool b.neg, .slice bo b.mag.length bcap, .int .i64 b.exp]] w fun e w' => e = .returned (.tuple #[.int .i64 0, .int .i64 2]) ∧ Below w.heap.size w w' := by
  have hR := fun w' (h : LRow w' ao a.mag) => right_any a ao cap w' h hL
  have hQ := fun w' (h : LRow w' bo b.mag) => right_any b bo bcap w' h hM
  cases ha : rightB a <;> rw [ha] at hR
  · obtain ⟨n1, xs, ex⟩ := a
    obtain ⟨n2, ys, ey⟩ := b
    simp only at *
    clear ha h
    go_enter Tryz.func60, Tryz.ntmps60
    go_wp2_with (go_at_call 37; refine (hR _ ((hr.alloc _).alloc _)).mono ?_; rintro e w1 ⟨rfl, b1⟩; obtain ⟨⟨c0, c1, c2⟩, ⟨d0, d1, d2⟩, _⟩ := box2 b1)
    go_ret2
    exact ⟨rfl, box2_old b1⟩
  · have hb : rightB b = false := by
      rcases h with h | h
      · rw [ha] at h; cases h
      · exact h
    rw [hb] at hQ
    obtain ⟨n1, xs, ex⟩ := a
    obtain ⟨n2, ys, ey⟩ := b
    simp only at *
    clear ha h hb
    go_enter Tryz.func60, Tryz.ntmps60
    go_wp2_with (first
      | (go_at_call_of 37 (Value.agg #[.bool n1, .slice ao xs.length cap, .int .i64 ex]); refine (hR _ ((hr.alloc _).alloc _)).mono ?_; rintro e w1 ⟨rfl, b1⟩; obtain ⟨⟨c0, c1, c2⟩, ⟨d0, d1, d2⟩, _⟩ := box2 b1)
      | (go_at_call_of 37 (Value.agg #[.bool n2, .slice bo ys.length bcap, .int .i64 ey]); refine (hQ _ (hs.below (box2_old b1))).mono ?_; rintro e w2 ⟨rfl, b2⟩; have B2 := b1.trans (b2.mono b1.size)))
    go_ret2
    exact ⟨rfl, box2_old B2⟩
theorem cmp_all (a b : Dy) (ao bo : Option Addr) (cap bcap : Nat) (w : World) (hr : LRow w ao a.mag) (hs : LRow w bo b.mag) (hL : Lm a.mag) (hM : Lm b.mag) :
    Calls Tryz.prog 60 #[.agg #[.bool a.neg, .slice ao a.mag.length cap, .int .i64 a.exp], .agg #[.bool b.neg, .slice bo b.mag.length bcap, .int .i64 b.exp]] w fun e w' => e = .returned (.tuple #[.int .i64 (cmpD a b).1, .int .i64 (cmpD a b).2]) ∧ Below w.heap.size w w' := by
  unfold cmpD
  cases ha : rightB a
  · simp only [Bool.false_and, Bool.false_eq_true, if_false]
    exact cmp_arg a b ao bo cap bcap w hr hs hL hM (Or.inl ha)
  · cases hb : rightB b
    · simp only [Bool.and_false, Bool.false_eq_true, if_false]
      exact cmp_arg a b ao bo cap bcap w hr hs hL hM (Or.inr hb)
    · simp only [Bool.and_self, if_true]
      exact Cmp_right a b ao bo cap bcap w hr hs hL hM ha hb
end Go.Proofs.YtnjahgfcijckcaaGreatDoor
