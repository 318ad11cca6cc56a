/- What holds of layer 3's laws answers of finite floats: on which side of a float the exact answer lies. -/
import Derived.Test.YtlkmmfmnggejlaaDoorZl
import Derived.Test.YtlkmmfmnggejlaaDoorDx
import Derived.Test.YtlkmmfmnggejlaaDoorHa
import Derived.Test.YtlkmmfmnggejlaaDoorY9
namespace Go.Proofs.YtlkmmfmnggejlaaDoor

theorem qd_sign {d : Dy} (h : rightB d = true) : qd d = sgD d * (sz d : Int) ∧ ((sgD d = 0 ∧ sz d = 0) ∨ (sgD d = 1 ∧ 0 < sz d) ∨ (sgD d = -1 ∧ 0 < sz d)) := by
  rcases right_cases h with rfl | ⟨hn, hc⟩
  · refine ⟨?_, Or.inl ⟨rfl, ?_⟩⟩
    · unfold qd; rw [show sv dy0 = 0 from rfl, show sgD dy0 = 0 from rfl, Int.zero_mul, Int.zero_mul]
    · unfold sz; rw [show vl dy0.mag = 0 from rfl, Nat.zero_mul]
  · have hv : vl d.mag ≠ 0 := vl_ne_last hn hc.2.2.1
    have hp : 0 < sz d := Nat.mul_pos (Nat.pos_of_ne_zero hv) (Nat.pow_pos (by omega))
    have hs : (sz d : Int) = (vl d.mag : Int) * 2 ^ (d.exp + 65536).toNat := by unfold sz; push_cast; rfl
    cases hg : d.neg
    · have e : sgD d = 1 := by unfold sgD; rw [if_neg hn, hg]; rfl
      refine ⟨?_, Or.inr (Or.inl ⟨e, hp⟩)⟩
      rw [e, hs, Int.one_mul]
      unfold qd sv
      rw [hg]; rfl
    · have e : sgD d = -1 := by unfold sgD; rw [if_neg hn, hg]; rfl
      refine ⟨?_, Or.inr (Or.inr ⟨e, hp⟩)⟩
      rw [e, hs]
      unfold qd sv
      rw [hg, if_pos rfl, Int.neg_mul, Int.neg_mul, Int.one_mul]

theorem cmp_val {a b : Dy} (ra : rightB a = true) (rb : rightB b = true) :
    sgI (qd a - qd b) = if sgD a ≠ sgD b then cmpI (sgD a) (sgD b) else if sgD a = 0 then 0 else sgD a * cmpI (sz a) (sz b) := by
  obtain ⟨qa, ha⟩ := qd_sign ra
  obtain ⟨qb, hb⟩ := qd_sign rb
  rw [qa, qb]
  generalize (sgD a) = x at *
  generalize (sgD b) = y at *
  generalize sz a = m at *
  generalize sz b = n at *
  clear qa qb ra rb
  rcases ha with ⟨rfl, rfl⟩ | ⟨rfl, hm⟩ | ⟨rfl, hm⟩ <;> rcases hb with ⟨rfl, rfl⟩ | ⟨rfl, hn⟩ | ⟨rfl, hn⟩ <;> simp [sgI, cmpI] <;> (repeat' split) <;> omega
end Go.Proofs.YtlkmmfmnggejlaaDoor

namespace Go.Proofs.YtlkmmfmnggejlaaDoor
open Go.RowKit

set_option maxHeartbeats 2000000 in
set_option maxRecDepth 100000 in
theorem Cmp_right (a b : Dy) (ao bo : Option Addr) (cap bcap : Nat) (w : World) (hr : LRow w ao a.mag) (hs : LRow w bo b.mag) (la : Lm a.mag) (lb : Lm b.mag) (ra : rightB a = true) (rb : rightB b = true) :
    Calls Tryd.prog 11 #[.agg #[.bool a.neg, .slice ao a.mag.length cap, .int .i64 a.exp], .agg #[.bool b.neg, .slice bo b.mag.length bcap, .int .i64 b.exp]] w fun e w' => e = .returned (.tuple #[.int .i64 (sgI (qd a - qd b)), .int .i64 0]) ∧ Below w.heap.size w w' := by
  rw [cmp_val ra rb]
  have cra := fun w' h => right_any a ao cap w' h la
  have crb := fun w' h => right_any b bo bcap w' h lb
  rw [ra] at cra
  rw [rb] at crb
  have xa := right_exp ra
  have xb := right_exp rb
  have csz := fun w' h h' (a0 : vl a.mag ≠ 0) (b0 : vl b.mag ≠ 0) => cmpSizes_any a b ao bo cap bcap w' h h' la lb xa.2.2 xb.2.2 a0 b0 xa.1 xa.2.1 xb.1 xb.2.1
  have csa := fun w' => sign_any a ao cap w'
  have csb := fun w' => sign_any b bo bcap w'
  obtain ⟨_, ha⟩ := qd_sign ra
  obtain ⟨_, hb⟩ := qd_sign rb
  have va : 0 < sz a → vl a.mag ≠ 0 := fun h h0 => by unfold sz at h; rw [h0, Nat.zero_mul] at h; omega
  have vb : 0 < sz b → vl b.mag ≠ 0 := fun h h0 => by unfold sz at h; rw [h0, Nat.zero_mul] at h; omega
  generalize sgD a = x at *
  generalize sgD b = y at *
  have bx : -1 ≤ x ∧ x ≤ 1 := by omega
  clear xa xb
  go_enter Tryd.func11, Tryd.ntmps11
  go_upto_region 1 with fail
  go_cut [7, 8, 9, 10, 11, 12, 13, 14] (fun _ _ _ _ _ _ _ s14 wx => s14 = .bool false ∧ Hd wx w.heap.size a ao cap ∧ Hd wx (w.heap.size + 1) b bo bcap ∧ Below w.heap.size w wx)
  case first =>
    go_wp2_with (first
      | (go_at_call_of 33 (Value.agg #[Value.bool a.neg, Value.slice ao a.mag.length cap, Value.int IntKind.i64 a.exp]); refine (cra _ ((hr.alloc _).alloc _)).mono ?_; rintro e w1 ⟨rfl, hb1⟩; obtain ⟨⟨c0, c1, c2⟩, ⟨d0, d1, d2⟩, _, _⟩ := box2 hb1; have ho1 := box2_old hb1)
      | (go_at_call_of 33 (Value.agg #[Value.bool b.neg, Value.slice bo b.mag.length bcap, Value.int IntKind.i64 b.exp]); refine (crb _ (hs.below ho1)).mono ?_; rintro e w2 ⟨rfl, hb2⟩))
    go_meet
    exact ⟨rfl, Hd.below ⟨c0, c1, c2, hr.below ho1⟩ hb2, Hd.below ⟨d0, d1, d2, hs.below ho1⟩ hb2, ho1.trans (hb2.mono ho1.size)⟩
  obtain ⟨rfl, Ha, Hb, hB⟩ := hcut
  obtain ⟨wq, hwq⟩ : ∃ wq, wq = wc := ⟨_, rfl⟩
  subst hwq
  go_upto_region 3 with fail
  go_cut [15, 16, 6] (fun _ _ s6 wx => s6 = .int .i64 x ∧ Hd wx w.heap.size a ao cap ∧ Hd wx (w.heap.size + 1) b bo bcap ∧ Below w.heap.size w wx)
  case first =>
    obtain ⟨a0, a1, a2, ar⟩ := Ha
    go_wp2_with (go_at_call 34; refine (csa _).mono ?_; rintro e w1 ⟨rfl, hb1⟩)
    go_meet
    exact ⟨rfl, Hd.below ⟨a0, a1, a2, ar⟩ hb1, Hb.below hb1, hB.trans (hb1.mono hB.size)⟩
  obtain ⟨rfl, Ha, Hb, hB⟩ := hcut
  obtain ⟨wq, hwq⟩ : ∃ wq, wq = wc := ⟨_, rfl⟩
  subst hwq
  go_upto_region 4 with fail
  go_cut [17, 18, 19, 20] (fun _ _ _ s20 wx => s20 = .bool (x != y) ∧ Hd wx w.heap.size a ao cap ∧ Hd wx (w.heap.size + 1) b bo bcap ∧ Below w.heap.size w wx)
  case first =>
    obtain ⟨a0, a1, a2, ar⟩ := Hb
    go_wp2_with (go_at_call 34; refine (csb _).mono ?_; rintro e w1 ⟨rfl, hb1⟩)
    go_meet
    exact ⟨rfl, Ha.below hb1, Hd.below ⟨a0, a1, a2, ar⟩ hb1, hB.trans (hb1.mono hB.size)⟩
  obtain ⟨rfl, Ha, Hb, hB⟩ := hcut
  obtain ⟨wq, hwq⟩ : ∃ wq, wq = wc := ⟨_, rfl⟩
  subst hwq
  obtain ⟨a0, a1, a2, ar⟩ := Ha
  obtain ⟨b0, b1, b2, br⟩ := Hb
  cases hxy : (x != y)
  · obtain rfl : x = y := by simpa using hxy
    cases h0 : (x == 0)
    · have hx0 : x ≠ 0 := by simpa using h0
      have hv1 := va (by omega)
      have hv2 := vb (by omega)
      have hm := cmpI_bd (sz a) (sz b)
      have hwr : IntKind.i64.wrap (x * cmpI (sz a) (sz b)) = x * cmpI (sz a) (sz b) := by
        have : x = 1 ∨ x = -1 := by omega
        rw [IntKind.wrap_i64]
        rcases this with h | h <;> rw [h] <;> omega
      clear ha hb va vb bx
      go_wp2_with (go_at_call 36; refine (csz _ ar br hv1 hv2).mono ?_; rintro e w1 ⟨rfl, hb1⟩)
      exact bodyPost_ret (v := .tuple #[.int .i64 (x * cmpI (sz a) (sz b)), .int .i64 0]) (by simp [results, Tryd.results11, go_sem]) rfl ⟨by first | rfl | (simp [hx0]; done), hB.trans (hb1.mono hB.size)⟩
    · have hx0 : x = 0 := by simpa using h0
      clear ha hb va vb bx
      go_wp2
      exact bodyPost_ret (v := .tuple #[.int .i64 0, .int .i64 0]) (by simp [results, Tryd.results11, go_sem]) rfl ⟨by first | rfl | (simp [hx0]; done), hB⟩
  · have e : x ≠ y := by simpa using hxy
    clear ha hb va vb bx
    go_wp2_with (first | (go_at_call 34; refine (csb _).mono ?_; rintro e w1 ⟨rfl, hb1⟩) | (go_at_call 35; refine (cmpInt_any _ _ _).mono ?_; rintro e w2 ⟨rfl, hw2⟩; subst hw2))
    exact bodyPost_ret (v := .tuple #[.int .i64 (cmpI x y), .int .i64 0]) (by simp [results, Tryd.results11, go_sem]) rfl ⟨rfl, hB.trans (hb1.mono hB.size)⟩
end Go.Proofs.YtlkmmfmnggejlaaDoor

namespace Go.Proofs.YtlkmmfmnggejlaaDoor
open Go.RowKit

/-- A right dyad of X units of 2^-2148. -/
def Fd (D : Dy) (X : Int) : Prop := rightB D = true ∧ Lm D.mag ∧ qd D = X * 2 ^ puH
theorem bl_sm {X : Int} {n : Nat} (h : X.natAbs < 2 ^ n) (hn : n ≤ 16384) : bl X.natAbs ≤ 16384 := by
  obtain ⟨G, hG⟩ : ∃ G : Nat, G = 16384 := ⟨_, rfl⟩
  rw [← hG] at hn ⊢
  exact bl_le_iff.2 (Nat.lt_of_lt_of_le h (pw_le hn))
theorem fd_of {a : Nat} (fa : finB a = true) : ∃ D, ofD a = (D, 0) ∧ Fd D (vI a * 2 ^ twP) := by
  obtain ⟨h1, h2, h3, h4⟩ := fq_qd fa (K := kV) rfl
  refine ⟨(ofD a).1, by rw [← h1], h2, h3, ?_⟩
  rw [h4, Int.mul_assoc, ← Int.pow_add, show twP + puH = kV from rfl]
theorem fd_dz {X : Int} (h : bl X.natAbs ≤ 16384) : Fd (dz X) X := dz_qd h rfl
theorem fd_add {D E : Dy} {X Y : Int} (h : Fd D X) (g : Fd E Y) (hb : bl (X + Y).natAbs ≤ 16384) : addD D E = (dz (X + Y), 0) := by
  unfold addD
  rw [h.1, g.1, h.2.2, g.2.2]
  simp only [Bool.and_self, if_true]
  rw [← Int.add_mul, shift_nrm, show (-65536 : Int) + (puH : Nat) = -2148 from rfl]
  exact dz_told hb
theorem fd_sub {D E : Dy} {X Y : Int} (h : Fd D X) (g : Fd E Y) (hb : bl (X - Y).natAbs ≤ 16384) : subD D E = (dz (X - Y), 0) := by
  unfold subD
  rw [h.1, g.1, h.2.2, g.2.2]
  simp only [Bool.and_self, if_true]
  rw [← Int.sub_mul, shift_nrm, show (-65536 : Int) + (puH : Nat) = -2148 from rfl]
  exact dz_told hb
theorem fd_mul {D E : Dy} {x y : Int} (h : Fd D (x * 2 ^ twP)) (g : Fd E (y * 2 ^ twP)) (hb : bl (x * y).natAbs ≤ 16384) : mulD D E = (dz (x * y), 0) := by
  unfold mulD
  rw [h.1, g.1, h.2.2, g.2.2]
  simp only [Bool.and_self, if_true]
  rw [show x * 2 ^ twP * 2 ^ puH * (y * 2 ^ twP * 2 ^ puH) = x * y * 2 ^ (kV + kV) by
    rw [Int.pow_add, show kV = twP + puH from rfl, Int.pow_add]
    generalize (2 : Int) ^ twP = P
    generalize (2 : Int) ^ puH = Q
    ac_rfl, shift_nrm, show (-131072 : Int) + ((kV + kV : Nat) : Int) = -2148 from rfl]
  exact dz_told hb
theorem fd_cmp {D E : Dy} {X Y : Int} (h : Fd D X) (g : Fd E Y) : sgI (qd D - qd E) = sgI (X - Y) := by
  rw [h.2.2, g.2.2, ← Int.sub_mul, sgI_pw]
theorem vI_bd {a : Nat} (fa : finB a = true) : ∃ V, V = 2098 ∧ (vI a).natAbs < 2 ^ V := by
  obtain ⟨V, hV⟩ : ∃ V : Nat, V = 2098 := ⟨_, rfl⟩
  exact ⟨V, hV, vI_lt fa hV⟩
/-- A box that may be written. -/
def Fzr (w : World) (p : Nat) : Prop := w.frozen? ⟨p, 0, none⟩ = false ∧ w.frozen? ⟨p, 1, none⟩ = false ∧ w.frozen? ⟨p, 2, none⟩ = false
theorem Fzr.below {w w1 : World} {p : Nat} (h : Fzr w p) (hp : p < w.heap.size) (hb : Below w.heap.size w w1) : Fzr w1 p := by
  obtain ⟨_, hf⟩ := oldc hb
  exact ⟨(hf _ _ hp).trans h.1, (hf _ _ hp).trans h.2.1, (hf _ _ hp).trans h.2.2⟩
theorem put3r {w : World} {p B : Nat} {a : Option Addr} {c : Nat} {D E : Dy} {ao : Option Addr} {cap : Nat} (h : Hd w p D ao cap) (hz : Fzr w p) (hr : LRow w a E.mag) (hf : Frs B a) (hp : p < B) :
    Hd (((w.setCell ⟨p, 0, none⟩ (.bool E.neg)).setCell ⟨p, 1, none⟩ (.slice a E.mag.length c)).setCell ⟨p, 2, none⟩ (.int .i64 E.exp)) p E a c ∧ Fzr (((w.setCell ⟨p, 0, none⟩ (.bool E.neg)).setCell ⟨p, 1, none⟩ (.slice a E.mag.length c)).setCell ⟨p, 2, none⟩ (.int .i64 E.exp)) p := by
  have s0 : (w.setCell ⟨p, 0, none⟩ (.bool E.neg)).cell? ⟨p, 0, none⟩ = some (.bool E.neg) := World.cell?_setCell_same w _ _ h.c0
  have s1 : (w.setCell ⟨p, 0, none⟩ (.bool E.neg)).cell? ⟨p, 1, none⟩ = some (.slice ao D.mag.length cap) := (World.cell?_setCell_other w _ _ _ (by simp)).trans h.c1
  have s2 : (w.setCell ⟨p, 0, none⟩ (.bool E.neg)).cell? ⟨p, 2, none⟩ = some (.int .i64 D.exp) := (World.cell?_setCell_other w _ _ _ (by simp)).trans h.c2
  have t0 := (World.cell?_setCell_other _ ⟨p, 1, none⟩ ⟨p, 0, none⟩ (.slice a E.mag.length c) (by simp)).trans s0
  have t1 := World.cell?_setCell_same _ _ (.slice a E.mag.length c) s1
  have t2 := (World.cell?_setCell_other _ ⟨p, 1, none⟩ ⟨p, 2, none⟩ (.slice a E.mag.length c) (by simp)).trans s2
  refine ⟨⟨(World.cell?_setCell_other _ _ _ _ (by simp)).trans t0, (World.cell?_setCell_other _ _ _ _ (by simp)).trans t1, World.cell?_setCell_same _ _ _ t2, ((hr.box hf hp _ _).box hf hp _ _).box hf hp _ _⟩, ?_⟩
  obtain ⟨f0, f1, f2⟩ := hz
  refine ⟨?_, ?_, ?_⟩ <;> simp [go_sem, f0, f1, f2]
end Go.Proofs.YtlkmmfmnggejlaaDoor

namespace Go.Proofs.YtlkmmfmnggejlaaDoor
open Go.RowKit

theorem bth3 {w W W' : World} (h : Below w.heap.size w W) (b : Below W.heap.size W W') : Below w.heap.size w W' := h.trans (b.mono h.size)
theorem bal (w : World) (o : Obj) : Below w.heap.size w (w.alloc o) := (Below.refl _ _).alloc (Nat.le_refl _) _
/-- Nine cells of three new boxes turned. -/
abbrev nineW (W : World) (n : Nat) (a b c d e f g h i : Value) : World := (((((((((W.setCell ⟨n, 0, none⟩ a).setCell ⟨n, 1, none⟩ b).setCell ⟨n, 2, none⟩ c).setCell ⟨n + 1, 0, none⟩ d).setCell ⟨n + 1, 1, none⟩ e).setCell ⟨n + 1, 2, none⟩ f).setCell ⟨n + 1 + 1, 0, none⟩ g).setCell ⟨n + 1 + 1, 1, none⟩ h).setCell ⟨n + 1 + 1, 2, none⟩ i).drew
theorem nine {W : World} {n : Nat} {o : Option Addr} {m : List Nat} (h : LRow W o m) (hf : Frs (n + 3) o) (a b c d e f g h' i : Value) : LRow (nineW W n a b c d e f g h' i) o m :=
  (((((((((h.box hf (by omega) _ _).box hf (by omega) _ _).box hf (by omega) _ _).box hf (by omega) _ _).box hf (by omega) _ _).box hf (by omega) _ _).box hf (by omega) _ _).box hf (by omega) _ _).box hf (by omega) _ _).drew
theorem nineB {w W : World} (hB : Below w.heap.size w W) (a b c d e f g h i : Value) : Below w.heap.size w (nineW W w.heap.size a b c d e f g h i) := by
  have k0 : w.heap.size ≤ w.heap.size := Nat.le_refl _
  have k1 : w.heap.size ≤ w.heap.size + 1 := by omega
  have k2 : w.heap.size ≤ w.heap.size + 1 + 1 := by omega
  exact (((((((((hB.setCell k0 _).setCell k0 _).setCell k0 _).setCell k1 _).setCell k1 _).setCell k1 _).setCell k2 _).setCell k2 _).setCell k2 _).drew
/-- Three new boxes of nothing. -/
theorem zero_three (w : World) : let o := Obj.cells #[.bool false, .slice none 0 0, .int .i64 0] 31
    let w0 := ((w.alloc o).alloc o).alloc o
    (Hd w0 w.heap.size dy0 none 0 ∧ Fzr w0 w.heap.size) ∧ (Hd w0 (w.heap.size + 1) dy0 none 0 ∧ Fzr w0 (w.heap.size + 1)) ∧ (Hd w0 (w.heap.size + 1 + 1) dy0 none 0 ∧ Fzr w0 (w.heap.size + 1 + 1)) := by
  refine ⟨⟨⟨?_, ?_, ?_, Or.inl rfl⟩, ?_, ?_, ?_⟩, ⟨⟨?_, ?_, ?_, Or.inl rfl⟩, ?_, ?_, ?_⟩, ⟨⟨?_, ?_, ?_, Or.inl rfl⟩, ?_, ?_, ?_⟩⟩
  all_goals first
    | (show _ = some (Value.bool false); go_simp)
    | (show _ = some (Value.slice none 0 0); go_simp)
    | (show _ = some (Value.int .i64 0); go_simp)
    | go_simp
end Go.Proofs.YtlkmmfmnggejlaaDoor

namespace Go.Proofs.YtlkmmfmnggejlaaDoor
open Go.RowKit

/-- Turned, where s says so. -/
def tnI (s : Bool) (x : Int) : Int := if s then -x else x
/-- Cells and marks of a box of three, behind a call. -/
theorem Hd.six {w w1 : World} {p : Nat} {d : Dy} {ao : Option Addr} {cap : Nat} (h : Hd w p d ao cap) (hz : Fzr w p) (hb : Below w.heap.size w w1) : Hd w1 p d ao cap ∧ Fzr w1 p := ⟨h.below hb, hz.below (World.block_lt_of_cell? w _ h.c0) hb⟩
theorem fz_new (w : World) (a b c : Value) : Fzr (w.alloc (.cells #[a, b, c] 31)) w.heap.size := ⟨by go_simp, by go_simp, by go_simp⟩
theorem not_neg {x : Nat} (hx : x < 18446744073709551616) (fx : finB x = true) (h : sgn x = false ∨ rung x = 0) : (FloatKind.f64.format.order x 0 == some .lt) = false := by
  have hr := fin_rung fx
  have nb : nanB x = false := rung_nan (by omega)
  rw [zero_lt hx, nb]
  unfold place
  rcases h with h | h
  · rw [h]; simp
  · rw [h]; cases sgn x <;> simp
theorem sgI_wrap (x : Int) : wrap64 (sgI x) = sgI x := by
  obtain ⟨h1, h2⟩ := sgI_bd x
  generalize sgI x = y at *
  unfold wrap64
  omega
theorem sgI_wrapn (x : Int) : wrap64 (-sgI x) = -sgI x := by
  obtain ⟨h1, h2⟩ := sgI_bd x
  generalize sgI x = y at *
  unfold wrap64
  omega
theorem put3n {w : World} {p : Nat} {a : Option Addr} {c : Nat} {D E : Dy} {ao : Option Addr} {cap : Nat} (h : Hd w p D ao cap) (hr : LRow w a E.mag) (hf : ∀ b off, a = some ⟨b, off, none⟩ → E.mag.length ≠ 0 → b ≠ p) :
    Hd (((w.setCell ⟨p, 0, none⟩ (.bool E.neg)).setCell ⟨p, 1, none⟩ (.slice a E.mag.length c)).setCell ⟨p, 2, none⟩ (.int .i64 E.exp)) p E a c := by
  have s0 : (w.setCell ⟨p, 0, none⟩ (.bool E.neg)).cell? ⟨p, 0, none⟩ = some (.bool E.neg) := World.cell?_setCell_same w _ _ h.c0
  have s1 : (w.setCell ⟨p, 0, none⟩ (.bool E.neg)).cell? ⟨p, 1, none⟩ = some (.slice ao D.mag.length cap) := (World.cell?_setCell_other w _ _ _ (by simp)).trans h.c1
  have s2 : (w.setCell ⟨p, 0, none⟩ (.bool E.neg)).cell? ⟨p, 2, none⟩ = some (.int .i64 D.exp) := (World.cell?_setCell_other w _ _ _ (by simp)).trans h.c2
  have t0 := (World.cell?_setCell_other _ ⟨p, 1, none⟩ ⟨p, 0, none⟩ (.slice a E.mag.length c) (by simp)).trans s0
  have t1 := World.cell?_setCell_same _ _ (.slice a E.mag.length c) s1
  have t2 := (World.cell?_setCell_other _ ⟨p, 1, none⟩ ⟨p, 2, none⟩ (.slice a E.mag.length c) (by simp)).trans s2
  exact ⟨(World.cell?_setCell_other _ _ _ _ (by simp)).trans t0, (World.cell?_setCell_other _ _ _ _ (by simp)).trans t1, World.cell?_setCell_same _ _ _ t2, ((hr.setCell _ hf).setCell _ hf).setCell _ hf⟩
theorem row_lt {w : World} {o : Option Addr} {m : List Nat} (h : LRow w o m) : ∀ b off, o = some ⟨b, off, none⟩ → m.length ≠ 0 → b < w.heap.size := fun b off e h0 => by
  rcases h with h | ⟨b', off', e', hc⟩
  · exact absurd h h0
  · rw [e] at e'
    cases e'
    exact World.block_lt_of_cell? w _ (hc 0 (by omega))
/-- A box behind three stores into another. -/
theorem Hd.oth {w : World} {p q : Nat} {d : Dy} {ao : Option Addr} {cap : Nat} (h : Hd w p d ao cap) (hne : p ≠ q) (v0 v1 v2 : Value) (hr : LRow (((w.setCell ⟨q, 0, none⟩ v0).setCell ⟨q, 1, none⟩ v1).setCell ⟨q, 2, none⟩ v2) ao d.mag) : Hd (((w.setCell ⟨q, 0, none⟩ v0).setCell ⟨q, 1, none⟩ v1).setCell ⟨q, 2, none⟩ v2) p d ao cap := by
  have hadd : ∀ i j : Nat, (⟨q, j, none⟩ : Addr) ≠ ⟨p, i, none⟩ := fun i j e => hne (by injection e with e1; exact e1.symm)
  have k : ∀ (i : Nat) (x : Value), w.cell? ⟨p, i, none⟩ = some x → (((w.setCell ⟨q, 0, none⟩ v0).setCell ⟨q, 1, none⟩ v1).setCell ⟨q, 2, none⟩ v2).cell? ⟨p, i, none⟩ = some x := fun i x hx => by
    rw [World.cell?_setCell_other _ _ _ _ (hadd i 2), World.cell?_setCell_other _ _ _ _ (hadd i 1), World.cell?_setCell_other _ _ _ _ (hadd i 0)]
    exact hx
  exact ⟨k _ _ h.c0, k _ _ h.c1, k _ _ h.c2, hr⟩
theorem Fzr.set {w : World} {p : Nat} (h : Fzr w p) (q : Nat) (v0 v1 v2 : Value) : Fzr (((w.setCell ⟨q, 0, none⟩ v0).setCell ⟨q, 1, none⟩ v1).setCell ⟨q, 2, none⟩ v2) p := by
  obtain ⟨h0, h1, h2⟩ := h
  exact ⟨by go_simp, by go_simp, by go_simp⟩
theorem three_box3 {w : World} {X Y Z : Dy} {ax ay az : Option Addr} {cx cy cz : Nat} (rx : LRow w ax X.mag) (ry : LRow w ay Y.mag) (rz : LRow w az Z.mag) :
    let W := ((w.alloc (.cells #[.bool X.neg, .slice ax X.mag.length cx, .int .i64 X.exp] 31)).alloc (.cells #[.bool Y.neg, .slice ay Y.mag.length cy, .int .i64 Y.exp] 31)).alloc (.cells #[.bool Z.neg, .slice az Z.mag.length cz, .int .i64 Z.exp] 31)
    Hd W w.heap.size X ax cx ∧ Hd W (w.heap.size + 1) Y ay cy ∧ Hd W (w.heap.size + 1 + 1) Z az cz ∧ W.heap.size = w.heap.size + 3 ∧ Below w.heap.size w W := by
  have h1 := ((Hd.new (d := X) (cap := cx) rx).below (bal _ (.cells #[.bool Y.neg, .slice ay Y.mag.length cy, .int .i64 Y.exp] 31))).below (bal _ (.cells #[.bool Z.neg, .slice az Z.mag.length cz, .int .i64 Z.exp] 31))
  have h2 := (Hd.new (d := Y) (cap := cy) (ry.alloc (.cells #[.bool X.neg, .slice ax X.mag.length cx, .int .i64 X.exp] 31))).below (bal _ (.cells #[.bool Z.neg, .slice az Z.mag.length cz, .int .i64 Z.exp] 31))
  have h3 := Hd.new (d := Z) (cap := cz) ((rz.alloc (.cells #[.bool X.neg, .slice ax X.mag.length cx, .int .i64 X.exp] 31)).alloc (.cells #[.bool Y.neg, .slice ay Y.mag.length cy, .int .i64 Y.exp] 31))
  refine ⟨h1, ?_, ?_, by simp, bth3 (bth3 (bal _ _) (bal _ _)) (bal _ _)⟩
  · simpa using h2
  · simpa using h3
end Go.Proofs.YtlkmmfmnggejlaaDoor
