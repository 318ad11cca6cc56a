/- What holds of layer 3's laws answers of finite floats: on which side of a float the exact answer lies. -/
import Derived.Test.YtalkdjgmblabgaaDoorY9
import Derived.Test.YtalkdjgmblabgaaDoorHa
import Derived.Test.YtalkdjgmblabgaaDoorY7
namespace Go.Proofs.YtalkdjgmblabgaaDoor
open Go.RowKit

/-- A right dyad of X units of 2^-2148. -/
def Fd (D : Dy) (X : Int) : Prop := rightB D = true ∧ Lm D.mag ∧ qd D = X * 2 ^ puH
theorem bl_sm {X : Int} {n : Nat} (h : X.natAbs < 2 ^ n) (hn : n ≤ 16384) : bl X.natAbs ≤ 16384 := by
  obtain ⟨G, hG⟩ : ∃ G : Nat, G = 16384 := ⟨_, rfl⟩
  rw [← hG] at hn ⊢
  exact bl_le_iff.2 (Nat.lt_of_lt_of_le h (pw_le hn))
theorem fd_of {a : Nat} (fa : finB a = true) : ∃ D, ofD a = (D, 0) ∧ Fd D (vI a * 2 ^ twP) := by
  obtain ⟨h1, h2, h3, h4⟩ := fq_qd fa (K := kV) rfl
  refine ⟨(ofD a).1, by rw [← h1], h2, h3, ?_⟩
  rw [h4, Int.mul_assoc, ← Int.pow_add, show twP + puH = kV from rfl]
theorem fd_dz {X : Int} (h : bl X.natAbs ≤ 16384) : Fd (dz X) X := dz_qd h rfl
theorem fd_add {D E : Dy} {X Y : Int} (h : Fd D X) (g : Fd E Y) (hb : bl (X + Y).natAbs ≤ 16384) : addD D E = (dz (X + Y), 0) := by
  unfold addD
  rw [h.1, g.1, h.2.2, g.2.2]
  simp only [Bool.and_self, if_true]
  rw [← Int.add_mul, shift_nrm, show (-65536 : Int) + (puH : Nat) = -2148 from rfl]
  exact dz_told hb
theorem fd_sub {D E : Dy} {X Y : Int} (h : Fd D X) (g : Fd E Y) (hb : bl (X - Y).natAbs ≤ 16384) : subD D E = (dz (X - Y), 0) := by
  unfold subD
  rw [h.1, g.1, h.2.2, g.2.2]
  simp only [Bool.and_self, if_true]
  rw [← Int.sub_mul, shift_nrm, show (-65536 : Int) + (puH : Nat) = -2148 from rfl]
  exact dz_told hb
theorem fd_mul {D E : Dy} {x y : Int} (h : Fd D (x * 2 ^ twP)) (g : Fd E (y * 2 ^ twP)) (hb : bl (x * y).natAbs ≤ 16384) : mulD D E = (dz (x * y), 0) := by
  unfold mulD
  rw [h.1, g.1, h.2.2, g.2.2]
  simp only [Bool.and_self, if_true]
  rw [show x * 2 ^ twP * 2 ^ puH * (y * 2 ^ twP * 2 ^ puH) = x * y * 2 ^ (kV + kV) by
    rw [Int.pow_add, show kV = twP + puH from rfl, Int.pow_add]
    generalize (2 : Int) ^ twP = P
    generalize (2 : Int) ^ puH = Q
    ac_rfl, shift_nrm, show (-131072 : Int) + ((kV + kV : Nat) : Int) = -2148 from rfl]
  exact dz_told hb
theorem fd_cmp {D E : Dy} {X Y : Int} (h : Fd D X) (g : Fd E Y) : sgI (qd D - qd E) = sgI (X - Y) := by
  rw [h.2.2, g.2.2, ← Int.sub_mul, sgI_pw]
theorem vI_bd {a : Nat} (fa : finB a = true) : ∃ V, V = 2098 ∧ (vI a).natAbs < 2 ^ V := by
  obtain ⟨V, hV⟩ : ∃ V : Nat, V = 2098 := ⟨_, rfl⟩
  exact ⟨V, hV, vI_lt fa hV⟩
/-- A box that may be written. -/
def Fzr (w : World) (p : Nat) : Prop := w.frozen? ⟨p, 0, none⟩ = false ∧ w.frozen? ⟨p, 1, none⟩ = false ∧ w.frozen? ⟨p, 2, none⟩ = false
theorem Fzr.below {w w1 : World} {p : Nat} (h : Fzr w p) (hp : p < w.heap.size) (hb : Below w.heap.size w w1) : Fzr w1 p := by
  obtain ⟨_, hf⟩ := oldc hb
  exact ⟨(hf _ _ hp).trans h.1, (hf _ _ hp).trans h.2.1, (hf _ _ hp).trans h.2.2⟩
theorem put3r {w : World} {p B : Nat} {a : Option Addr} {c : Nat} {D E : Dy} {ao : Option Addr} {cap : Nat} (h : Hd w p D ao cap) (hz : Fzr w p) (hr : LRow w a E.mag) (hf : Frs B a) (hp : p < B) :
    Hd (((w.setCell ⟨p, 0, none⟩ (.bool E.neg)).setCell ⟨p, 1, none⟩ (.slice a E.mag.length c)).setCell ⟨p, 2, none⟩ (.int .i64 E.exp)) p E a c ∧ Fzr (((w.setCell ⟨p, 0, none⟩ (.bool E.neg)).setCell ⟨p, 1, none⟩ (.slice a E.mag.length c)).setCell ⟨p, 2, none⟩ (.int .i64 E.exp)) p := by
  have s0 : (w.setCell ⟨p, 0, none⟩ (.bool E.neg)).cell? ⟨p, 0, none⟩ = some (.bool E.neg) := World.cell?_setCell_same w _ _ h.c0
  have s1 : (w.setCell ⟨p, 0, none⟩ (.bool E.neg)).cell? ⟨p, 1, none⟩ = some (.slice ao D.mag.length cap) := (World.cell?_setCell_other w _ _ _ (by simp)).trans h.c1
  have s2 : (w.setCell ⟨p, 0, none⟩ (.bool E.neg)).cell? ⟨p, 2, none⟩ = some (.int .i64 D.exp) := (World.cell?_setCell_other w _ _ _ (by simp)).trans h.c2
  have t0 := (World.cell?_setCell_other _ ⟨p, 1, none⟩ ⟨p, 0, none⟩ (.slice a E.mag.length c) (by simp)).trans s0
  have t1 := World.cell?_setCell_same _ _ (.slice a E.mag.length c) s1
  have t2 := (World.cell?_setCell_other _ ⟨p, 1, none⟩ ⟨p, 2, none⟩ (.slice a E.mag.length c) (by simp)).trans s2
  refine ⟨⟨(World.cell?_setCell_other _ _ _ _ (by simp)).trans t0, (World.cell?_setCell_other _ _ _ _ (by simp)).trans t1, World.cell?_setCell_same _ _ _ t2, ((hr.box hf hp _ _).box hf hp _ _).box hf hp _ _⟩, ?_⟩
  obtain ⟨f0, f1, f2⟩ := hz
  refine ⟨?_, ?_, ?_⟩ <;> simp [go_sem, f0, f1, f2]
end Go.Proofs.YtalkdjgmblabgaaDoor

namespace Go.Proofs.YtalkdjgmblabgaaDoor
open Go.RowKit

theorem bth3 {w W W' : World} (h : Below w.heap.size w W) (b : Below W.heap.size W W') : Below w.heap.size w W' := h.trans (b.mono h.size)
theorem bal (w : World) (o : Obj) : Below w.heap.size w (w.alloc o) := (Below.refl _ _).alloc (Nat.le_refl _) _
/-- Nine cells of three new boxes turned. -/
abbrev nineW (W : World) (n : Nat) (a b c d e f g h i : Value) : World := (((((((((W.setCell ⟨n, 0, none⟩ a).setCell ⟨n, 1, none⟩ b).setCell ⟨n, 2, none⟩ c).setCell ⟨n + 1, 0, none⟩ d).setCell ⟨n + 1, 1, none⟩ e).setCell ⟨n + 1, 2, none⟩ f).setCell ⟨n + 1 + 1, 0, none⟩ g).setCell ⟨n + 1 + 1, 1, none⟩ h).setCell ⟨n + 1 + 1, 2, none⟩ i).drew
theorem nine {W : World} {n : Nat} {o : Option Addr} {m : List Nat} (h : LRow W o m) (hf : Frs (n + 3) o) (a b c d e f g h' i : Value) : LRow (nineW W n a b c d e f g h' i) o m :=
  (((((((((h.box hf (by omega) _ _).box hf (by omega) _ _).box hf (by omega) _ _).box hf (by omega) _ _).box hf (by omega) _ _).box hf (by omega) _ _).box hf (by omega) _ _).box hf (by omega) _ _).box hf (by omega) _ _).drew
theorem nineB {w W : World} (hB : Below w.heap.size w W) (a b c d e f g h i : Value) : Below w.heap.size w (nineW W w.heap.size a b c d e f g h i) := by
  have k0 : w.heap.size ≤ w.heap.size := Nat.le_refl _
  have k1 : w.heap.size ≤ w.heap.size + 1 := by omega
  have k2 : w.heap.size ≤ w.heap.size + 1 + 1 := by omega
  exact (((((((((hB.setCell k0 _).setCell k0 _).setCell k0 _).setCell k1 _).setCell k1 _).setCell k1 _).setCell k2 _).setCell k2 _).setCell k2 _).drew
/-- Three new boxes of nothing. -/
theorem zero_three (w : World) : let o := Obj.cells #[.bool false, .slice none 0 0, .int .i64 0] 61
    let w0 := ((w.alloc o).alloc o).alloc o
    (Hd w0 w.heap.size dy0 none 0 ∧ Fzr w0 w.heap.size) ∧ (Hd w0 (w.heap.size + 1) dy0 none 0 ∧ Fzr w0 (w.heap.size + 1)) ∧ (Hd w0 (w.heap.size + 1 + 1) dy0 none 0 ∧ Fzr w0 (w.heap.size + 1 + 1)) := by
  refine ⟨⟨⟨?_, ?_, ?_, Or.inl rfl⟩, ?_, ?_, ?_⟩, ⟨⟨?_, ?_, ?_, Or.inl rfl⟩, ?_, ?_, ?_⟩, ⟨⟨?_, ?_, ?_, Or.inl rfl⟩, ?_, ?_, ?_⟩⟩
  all_goals first
    | (show _ = some (Value.bool false); go_simp)
    | (show _ = some (Value.slice none 0 0); go_simp)
    | (show _ = some (Value.int .i64 0); go_simp)
    | go_simp
set_option maxRecDepth 100000 in
set_option maxHeartbeats 2000000 in
theorem dyads_any (a b c : Nat) (X Y Z : Dy) (ha : a < 18446744073709551616) (hb : b < 18446744073709551616) (hc : c < 18446744073709551616) (eX : ofD a = (X, 0)) (eY : ofD b = (Y, 0)) (eZ : ofD c = (Z, 0)) (w : World) (hT : TabW w) :
    Calls Tryd.prog 53 #[.float .f64 a, .float .f64 b, .float .f64 c] w fun e w' => ∃ ao ac bo bc co cc, e = .returned (.tuple #[.agg #[.bool X.neg, .slice ao X.mag.length ac, .int .i64 X.exp], .agg #[.bool Y.neg, .slice bo Y.mag.length bc, .int .i64 Y.exp], .agg #[.bool Z.neg, .slice co Z.mag.length cc, .int .i64 Z.exp], .bool true]) ∧ LRow w' ao X.mag ∧ LRow w' bo Y.mag ∧ LRow w' co Z.mag ∧ Below w.heap.size w w' := by
  have ox := fun w h => Of_any a ha w h
  have oy := fun w h => Of_any b hb w h
  have oz := fun w h => Of_any c hc w h
  rw [eX] at ox
  rw [eY] at oy
  rw [eZ] at oz
  clear eX eY eZ
  obtain ⟨xn, xm, xe⟩ := X
  obtain ⟨yn, ym, ye⟩ := Y
  obtain ⟨zn, zm, ze⟩ := Z
  have hT3 : ∀ o p q, TabW (((w.alloc o).alloc p).alloc q) := fun o p q => tabW_alloc (tabW_alloc (tabW_alloc hT o) p) q
  go_enter Tryd.func53, Tryd.ntmps53
  go_upto_region 4 with (first
    | (go_at_call_of 54 (Value.float FloatKind.f64 a); refine (ox _ (hT3 _ _ _)).mono ?_; rintro e w1 ⟨ax, cx, rfl, r1, f1, b1⟩; have hT1 := tabW_below (hT3 _ _ _) b1)
    | (go_at_call_of 54 (Value.float FloatKind.f64 b); refine (oy _ (tabW_alloc hT1 _)).mono ?_; rintro e w2 ⟨ay, cy, rfl, r2, f2, b2⟩; have hT2 := tabW_below (tabW_alloc hT1 _) b2)
    | (go_at_call_of 54 (Value.float FloatKind.f64 c); refine (oz _ (tabW_alloc hT2 _)).mono ?_; rintro e w3 ⟨az, cz, rfl, r3, f3, b3⟩))
  obtain ⟨o, ho⟩ : ∃ o, Obj.cells #[.bool false, .slice none 0 0, .int .i64 0] 61 = o := ⟨_, rfl⟩
  obtain ⟨Z0, Z1, Z2⟩ := zero_three w
  rw [ho] at Z0 Z1 Z2
  rw [ho] at f1 b1
  have B0 : Below w.heap.size w (((w.alloc o).alloc o).alloc o) := bth3 (bth3 (bal w o) (bal _ o)) (bal _ o)
  have s0 : (((w.alloc o).alloc o).alloc o).heap.size = w.heap.size + 3 := by simp
  generalize ((w.alloc o).alloc o).alloc o = w0 at *
  have HX := ((Hd.new (d := ⟨xn, xm, xe⟩) (cap := cx) r1).below b2)
  have HX := (HX.below (bal _ _)).below b3
  have HX := HX.below (bal _ (Obj.cells #[.bool zn, .slice az zm.length cz, .int .i64 ze] 61))
  have HY := (Hd.new (d := ⟨yn, ym, ye⟩) (cap := cy) r2).below b3
  have HY := HY.below (bal _ (Obj.cells #[.bool zn, .slice az zm.length cz, .int .i64 ze] 61))
  have HZ := Hd.new (d := ⟨zn, zm, ze⟩) (cap := cz) r3
  have K1 := bth3 (bth3 b1 (bal _ (Obj.cells #[.bool xn, .slice ax xm.length cx, .int .i64 xe] 61))) b2
  have K2 := bth3 (bth3 K1 (bal _ (Obj.cells #[.bool yn, .slice ay ym.length cy, .int .i64 ye] 61))) b3
  have K3 := bth3 K2 (bal _ (Obj.cells #[.bool zn, .slice az zm.length cz, .int .i64 ze] 61))
  have F1 : Frs (w.heap.size + 3) ax := by rw [← s0]; exact f1
  have F2 : Frs (w.heap.size + 3) ay := f2.mono (by have := b1.size; simp; omega)
  have F3 : Frs (w.heap.size + 3) az := f3.mono (by have := K1.size; simp; omega)
  have E0 := (oldc K3).1
  have E1 := (oldc K3).2
  have p1 : w.heap.size + 3 ≤ w1.heap.size := by have := b1.size; omega
  have p2 : w1.heap.size + 1 ≤ w2.heap.size := by have := b2.size; simpa using this
  have p3 : w2.heap.size + 1 ≤ w3.heap.size := by have := b3.size; simpa using this
  have q0 : w.heap.size < w0.heap.size := by omega
  have q1 : w.heap.size + 1 < w0.heap.size := by omega
  have q2 : w.heap.size + 1 + 1 < w0.heap.size := by omega
  have Z0 := And.intro (Z0.1.below K3) (Z0.2.below q0 K3)
  have Z1 := And.intro (Z1.1.below K3) (Z1.2.below q1 K3)
  have Z2 := And.intro (Z2.1.below K3) (Z2.2.below q2 K3)
  have BW := bth3 B0 K3
  clear hT hT1 hT2 hT3 ox oy oz f1 f2 f3 b1 b2 b3 r1 r2 r3 K1 K2 K3 E0 E1 B0
  generalize hn1 : w1.heap.size = n1 at *
  generalize hn2 : w2.heap.size = n2 at *
  generalize hn3 : w3.heap.size = n3 at *
  generalize w3.alloc (Obj.cells #[.bool zn, .slice az zm.length cz, .int .i64 ze] 61) = W at *
  clear hn1 hn2 hn3
  obtain ⟨x0, x1, x2, xr⟩ := HX
  obtain ⟨y0, y1, y2, yr⟩ := HY
  obtain ⟨z0, z1, z2, zr⟩ := HZ
  obtain ⟨⟨d0, d1, d2, _⟩, g0, g1, g2⟩ := Z0
  obtain ⟨⟨d3, d4, d5, _⟩, g3, g4, g5⟩ := Z1
  obtain ⟨⟨d6, d7, d8, _⟩, g6, g7, g8⟩ := Z2
  dsimp only at *
  have v1 : ¬ n1 = w.heap.size := by omega
  have v2 : ¬ n1 = w.heap.size + 1 := by omega
  have v3 : ¬ n1 = w.heap.size + 1 + 1 := by omega
  have v4 : ¬ n2 = w.heap.size := by omega
  have v5 : ¬ n2 = w.heap.size + 1 := by omega
  have v6 : ¬ n2 = w.heap.size + 1 + 1 := by omega
  have v7 : ¬ n3 = w.heap.size := by omega
  have v8 : ¬ n3 = w.heap.size + 1 := by omega
  have v9 : ¬ n3 = w.heap.size + 1 + 1 := by omega
  have u1 : ¬ w.heap.size = n1 := by omega
  have u2 : ¬ w.heap.size + 1 = n1 := by omega
  have u3 : ¬ w.heap.size + 1 + 1 = n1 := by omega
  have u4 : ¬ w.heap.size = n2 := by omega
  have u5 : ¬ w.heap.size + 1 = n2 := by omega
  have u6 : ¬ w.heap.size + 1 + 1 = n2 := by omega
  have u7 : ¬ w.heap.size = n3 := by omega
  have u8 : ¬ w.heap.size + 1 = n3 := by omega
  have u9 : ¬ w.heap.size + 1 + 1 = n3 := by omega
  go_region_held3 (fun w' => w'.cell? ⟨n1, 0, none⟩ = some (.bool xn) ∧ w'.cell? ⟨n1, 1, none⟩ = some (.slice ax xm.length cx) ∧ w'.cell? ⟨n1, 2, none⟩ = some (.int .i64 xe) ∧ w'.cell? ⟨n2, 0, none⟩ = some (.bool yn) ∧ w'.cell? ⟨n2, 1, none⟩ = some (.slice ay ym.length cy) ∧ w'.cell? ⟨n2, 2, none⟩ = some (.int .i64 ye) ∧ w'.cell? ⟨n3, 0, none⟩ = some (.bool zn) ∧ w'.cell? ⟨n3, 1, none⟩ = some (.slice az zm.length cz) ∧ w'.cell? ⟨n3, 2, none⟩ = some (.int .i64 ze)) (go_keep) (fail)
  go_wp2
  refine bodyPost_ret (v := .tuple #[.agg #[.bool xn, .slice ax xm.length cx, .int .i64 xe], .agg #[.bool yn, .slice ay ym.length cy, .int .i64 ye], .agg #[.bool zn, .slice az zm.length cz, .int .i64 ze], .bool true]) (by simp [results, Tryd.results53, go_sem, d0, d1, d2, d3, d4, d5, d6, d7, d8]) rfl ⟨ax, cx, ay, cy, az, cz, rfl, nine xr F1 _ _ _ _ _ _ _ _ _, nine yr F2 _ _ _ _ _ _ _ _ _, nine zr F3 _ _ _ _ _ _ _ _ _, nineB BW _ _ _ _ _ _ _ _ _⟩
end Go.Proofs.YtalkdjgmblabgaaDoor

namespace Go.Proofs.YtalkdjgmblabgaaDoor
open Go.RowKit

/-- Turned, where s says so. -/
def tnI (s : Bool) (x : Int) : Int := if s then -x else x
/-- Cells and marks of a box of three, behind a call. -/
theorem Hd.six {w w1 : World} {p : Nat} {d : Dy} {ao : Option Addr} {cap : Nat} (h : Hd w p d ao cap) (hz : Fzr w p) (hb : Below w.heap.size w w1) : Hd w1 p d ao cap ∧ Fzr w1 p := ⟨h.below hb, hz.below (World.block_lt_of_cell? w _ h.c0) hb⟩
theorem fz_new (w : World) (a b c : Value) : Fzr (w.alloc (.cells #[a, b, c] 61)) w.heap.size := ⟨by go_simp, by go_simp, by go_simp⟩
theorem not_neg {x : Nat} (hx : x < 18446744073709551616) (fx : finB x = true) (h : sgn x = false ∨ rung x = 0) : (FloatKind.f64.format.order x 0 == some .lt) = false := by
  have hr := fin_rung fx
  have nb : nanB x = false := rung_nan (by omega)
  rw [zero_lt hx, nb]
  unfold place
  rcases h with h | h
  · rw [h]; simp
  · rw [h]; cases sgn x <;> simp
theorem sgI_wrap (x : Int) : wrap64 (sgI x) = sgI x := by
  obtain ⟨h1, h2⟩ := sgI_bd x
  generalize sgI x = y at *
  unfold wrap64
  omega
theorem sgI_wrapn (x : Int) : wrap64 (-sgI x) = -sgI x := by
  obtain ⟨h1, h2⟩ := sgI_bd x
  generalize sgI x = y at *
  unfold wrap64
  omega
theorem put3n {w : World} {p : Nat} {a : Option Addr} {c : Nat} {D E : Dy} {ao : Option Addr} {cap : Nat} (h : Hd w p D ao cap) (hr : LRow w a E.mag) (hf : ∀ b off, a = some ⟨b, off, none⟩ → E.mag.length ≠ 0 → b ≠ p) :
    Hd (((w.setCell ⟨p, 0, none⟩ (.bool E.neg)).setCell ⟨p, 1, none⟩ (.slice a E.mag.length c)).setCell ⟨p, 2, none⟩ (.int .i64 E.exp)) p E a c := by
  have s0 : (w.setCell ⟨p, 0, none⟩ (.bool E.neg)).cell? ⟨p, 0, none⟩ = some (.bool E.neg) := World.cell?_setCell_same w _ _ h.c0
  have s1 : (w.setCell ⟨p, 0, none⟩ (.bool E.neg)).cell? ⟨p, 1, none⟩ = some (.slice ao D.mag.length cap) := (World.cell?_setCell_other w _ _ _ (by simp)).trans h.c1
  have s2 : (w.setCell ⟨p, 0, none⟩ (.bool E.neg)).cell? ⟨p, 2, none⟩ = some (.int .i64 D.exp) := (World.cell?_setCell_other w _ _ _ (by simp)).trans h.c2
  have t0 := (World.cell?_setCell_other _ ⟨p, 1, none⟩ ⟨p, 0, none⟩ (.slice a E.mag.length c) (by simp)).trans s0
  have t1 := World.cell?_setCell_same _ _ (.slice a E.mag.length c) s1
  have t2 := (World.cell?_setCell_other _ ⟨p, 1, none⟩ ⟨p, 2, none⟩ (.slice a E.mag.length c) (by simp)).trans s2
  exact ⟨(World.cell?_setCell_other _ _ _ _ (by simp)).trans t0, (World.cell?_setCell_other _ _ _ _ (by simp)).trans t1, World.cell?_setCell_same _ _ _ t2, ((hr.setCell _ hf).setCell _ hf).setCell _ hf⟩
theorem row_lt {w : World} {o : Option Addr} {m : List Nat} (h : LRow w o m) : ∀ b off, o = some ⟨b, off, none⟩ → m.length ≠ 0 → b < w.heap.size := fun b off e h0 => by
  rcases h with h | ⟨b', off', e', hc⟩
  · exact absurd h h0
  · rw [e] at e'
    cases e'
    exact World.block_lt_of_cell? w _ (hc 0 (by omega))
/-- A box behind three stores into another. -/
theorem Hd.oth {w : World} {p q : Nat} {d : Dy} {ao : Option Addr} {cap : Nat} (h : Hd w p d ao cap) (hne : p ≠ q) (v0 v1 v2 : Value) (hr : LRow (((w.setCell ⟨q, 0, none⟩ v0).setCell ⟨q, 1, none⟩ v1).setCell ⟨q, 2, none⟩ v2) ao d.mag) : Hd (((w.setCell ⟨q, 0, none⟩ v0).setCell ⟨q, 1, none⟩ v1).setCell ⟨q, 2, none⟩ v2) p d ao cap := by
  have hadd : ∀ i j : Nat, (⟨q, j, none⟩ : Addr) ≠ ⟨p, i, none⟩ := fun i j e => hne (by injection e with e1; exact e1.symm)
  have k : ∀ (i : Nat) (x : Value), w.cell? ⟨p, i, none⟩ = some x → (((w.setCell ⟨q, 0, none⟩ v0).setCell ⟨q, 1, none⟩ v1).setCell ⟨q, 2, none⟩ v2).cell? ⟨p, i, none⟩ = some x := fun i x hx => by
    rw [World.cell?_setCell_other _ _ _ _ (hadd i 2), World.cell?_setCell_other _ _ _ _ (hadd i 1), World.cell?_setCell_other _ _ _ _ (hadd i 0)]
    exact hx
  exact ⟨k _ _ h.c0, k _ _ h.c1, k _ _ h.c2, hr⟩
theorem Fzr.set {w : World} {p : Nat} (h : Fzr w p) (q : Nat) (v0 v1 v2 : Value) : Fzr (((w.setCell ⟨q, 0, none⟩ v0).setCell ⟨q, 1, none⟩ v1).setCell ⟨q, 2, none⟩ v2) p := by
  obtain ⟨h0, h1, h2⟩ := h
  exact ⟨by go_simp, by go_simp, by go_simp⟩
theorem three_box3 {w : World} {X Y Z : Dy} {ax ay az : Option Addr} {cx cy cz : Nat} (rx : LRow w ax X.mag) (ry : LRow w ay Y.mag) (rz : LRow w az Z.mag) :
    let W := ((w.alloc (.cells #[.bool X.neg, .slice ax X.mag.length cx, .int .i64 X.exp] 61)).alloc (.cells #[.bool Y.neg, .slice ay Y.mag.length cy, .int .i64 Y.exp] 61)).alloc (.cells #[.bool Z.neg, .slice az Z.mag.length cz, .int .i64 Z.exp] 61)
    Hd W w.heap.size X ax cx ∧ Hd W (w.heap.size + 1) Y ay cy ∧ Hd W (w.heap.size + 1 + 1) Z az cz ∧ W.heap.size = w.heap.size + 3 ∧ Below w.heap.size w W := by
  have h1 := ((Hd.new (d := X) (cap := cx) rx).below (bal _ (.cells #[.bool Y.neg, .slice ay Y.mag.length cy, .int .i64 Y.exp] 61))).below (bal _ (.cells #[.bool Z.neg, .slice az Z.mag.length cz, .int .i64 Z.exp] 61))
  have h2 := (Hd.new (d := Y) (cap := cy) (ry.alloc (.cells #[.bool X.neg, .slice ax X.mag.length cx, .int .i64 X.exp] 61))).below (bal _ (.cells #[.bool Z.neg, .slice az Z.mag.length cz, .int .i64 Z.exp] 61))
  have h3 := Hd.new (d := Z) (cap := cz) ((rz.alloc (.cells #[.bool X.neg, .slice ax X.mag.length cx, .int .i64 X.exp] 61)).alloc (.cells #[.bool Y.neg, .slice ay Y.mag.length cy, .int .i64 Y.exp] 61))
  refine ⟨h1, ?_, ?_, by simp, bth3 (bth3 (bal _ _) (bal _ _)) (bal _ _)⟩
  · simpa using h2
  · simpa using h3
set_option maxRecDepth 100000 in
set_option maxHeartbeats 4000000 in
theorem holds_0 (a b c t : Nat) (ha : a < 18446744073709551616) (hb : b < 18446744073709551616) (hc : c < 18446744073709551616) (ht : t < 18446744073709551616) (fa : finB a = true) (fb : finB b = true) (fc : finB c = true) (ft : finB t = true) (w : World) (hT : TabW w) :
    Calls Tryd.prog 37 #[.int .i64 0, .float .f64 a, .float .f64 b, .float .f64 c, .float .f64 t] w fun e w' => e = .returned (.tuple #[.int .i64 (sgI (vI a + vI b - vI t)), .bool true]) ∧ Below w.heap.size w w' := by
  obtain ⟨X, eX, FX⟩ := fd_of fa
  obtain ⟨Y, eY, FY⟩ := fd_of fb
  obtain ⟨Z, eZ, FZ⟩ := fd_of fc
  obtain ⟨T, eT, FT⟩ := fd_of ft
  obtain ⟨V', hV'⟩ : ∃ V : Nat, V = 2098 := ⟨_, rfl⟩
  have va := vI_lt fa hV'
  have vb := vI_lt fb hV'
  have vc := vI_lt fc hV'
  have vt := vI_lt ft hV'
  have hb2 : bl (vI a * 2 ^ twP + vI b * 2 ^ twP).natAbs ≤ 16384 := bl_sm (n := V' + 1 + twP) (by
    rw [← Int.add_mul, Int.natAbs_mul, pw_abs, Nat.pow_add, Nat.pow_succ]
    exact Nat.mul_lt_mul_of_pos_right (by omega) (Nat.two_pow_pos _)) (by unfold twP; omega)
  have FE := fd_dz hb2
  have lE := FE.2.1
  have eE := fd_add FX FY hb2
  generalize dz (vI a * 2 ^ twP + vI b * 2 ^ twP) = E at *
  have oc := fun ao bo cap bcap w h1 h2 => Cmp_right E T ao bo cap bcap w h1 h2 FE.2.1 FT.2.1 FE.1 FT.1
  rw [fd_cmp FE FT] at oc
  have oa := fun ao bo cap bcap w h1 h2 h3 => Add_any X Y ao bo cap bcap w h1 h2 FX.2.1 FY.2.1 h3
  rw [eE] at oa
  have od := fun w h => dyads_any a b c X Y Z ha hb hc eX eY eZ w h
  have ot := fun w h => Of_any t ht w h
  rw [eT] at ot
  clear eX eY eZ eT va vb vc vt hV' fa fb fc ft FY FZ
  have lT := FT.2.1
  have lX := FX.2.1
  go_enter Tryd.func37, Tryd.ntmps37
  go_upto_region 2 with (go_at_call 53; refine (od _ hT).mono ?_; rintro e w1 ⟨ax, cx, ay, cy, az, cz, rfl, rx, ry, rz, b1⟩)
  obtain ⟨HX, HY, HZ, s3, B4⟩ := three_box3 (cx := cx) (cy := cy) (cz := cz) rx ry rz
  have hT3 := tabW_below (tabW_below hT b1) B4
  have B3 := bth3 b1 B4
  generalize ((w1.alloc (.cells #[.bool X.neg, .slice ax X.mag.length cx, .int .i64 X.exp] 61)).alloc (.cells #[.bool Y.neg, .slice ay Y.mag.length cy, .int .i64 Y.exp] 61)).alloc (.cells #[.bool Z.neg, .slice az Z.mag.length cz, .int .i64 Z.exp] 61) = W3 at *
  generalize w1.heap.size = n1 at *
  clear rx ry rz b1 s3 od B4
  go_upto_region 3 with (go_at_call 54; refine (ot _ hT3).mono ?_; rintro e w2 ⟨at_, ct, rfl, rt, ftt, b2⟩)
  have hT2 := tabW_below hT3 b2
  have HX := HX.below b2
  have HY := HY.below b2
  have HZ := HZ.below b2
  have B2 := bth3 B3 b2
  clear hT3 B3 b2 ot ftt hT
  have l1 : n1 < w2.heap.size := World.block_lt_of_cell? w2 _ HX.c0
  have l2 : n1 + 1 < w2.heap.size := World.block_lt_of_cell? w2 _ HY.c0
  have l3 : n1 + 1 + 1 < w2.heap.size := World.block_lt_of_cell? w2 _ HZ.c0
  obtain ⟨V0, hV0⟩ : ∃ V0, w2.alloc (.cells #[.bool T.neg, .slice at_ T.mag.length ct, .int .i64 T.exp] 61) = V0 := ⟨_, rfl⟩
  have HT0 : Hd V0 w2.heap.size T at_ ct := by rw [← hV0]; exact Hd.new rt
  have ZT0 : Fzr V0 w2.heap.size := by rw [← hV0]; exact fz_new _ _ _ _
  have BV0 : Below w2.heap.size w2 V0 := by rw [← hV0]; exact bal _ _
  have sV0 : V0.heap.size = w2.heap.size + 1 := by rw [← hV0]; simp
  rw [hV0]
  clear hV0
  go_upto_region 13 with fail
  obtain ⟨V5, hV5⟩ : ∃ V5, V0.alloc (.cells #[.bool false, .slice none 0 0, .int .i64 0] 61) = V5 := ⟨_, rfl⟩
  have HE0 : Hd V5 V0.heap.size dy0 none 0 := by rw [← hV5]; exact Hd.new (d := dy0) (Or.inl rfl)
  have ZE0 : Fzr V5 V0.heap.size := by rw [← hV5]; exact fz_new _ _ _ _
  have BV5 : Below V0.heap.size V0 V5 := by rw [← hV5]; exact bal _ _
  have sV5 : V5.heap.size = V0.heap.size + 1 := by rw [← hV5]; simp
  rw [hV5]
  clear hV5
  have HT5 := HT0.below BV5
  have ZT5 := ZT0.below (by omega) BV5
  have K5 : Below w2.heap.size w2 V5 := bth3 BV0 BV5
  have hT5 := tabW_below hT2 K5
  have HX5 := HX.below K5
  have HY5 := HY.below K5
  have HZ5 := HZ.below K5
  rw [sV0] at HE0 ZE0 sV5
  generalize hp4 : w2.heap.size = P at *
  have ne1 : ¬ P + 1 = P := by omega
  have ne2 : ¬ P = P + 1 := by omega
  have HW : Hid (∀ v, Below P w2 v → Below w.heap.size w v) := fun v h => B2.trans (h.mono (by rw [← hp4]; exact B2.size))
  have lP : P + 1 < V5.heap.size := by omega
  have x0 := HX5.c0
  have x1 := HX5.c1
  have x2 := HX5.c2
  have y0 := HY5.c0
  have y1 := HY5.c1
  have y2 := HY5.c2
  go_upto_region 30 with (go_at_call 55; refine (oa _ _ _ _ _ HX5.row HY5.row hT5).mono ?_; rintro e v6 ⟨ae, ce, rfl, re, fe, b6⟩; have HE6 := HE0.six ZE0 b6; have k0 := HE6.1.c0; have k1 := HE6.1.c1; have k2 := HE6.1.c2; obtain ⟨f0, f1, f2⟩ := HE6.2)
  have P3 := put3r (c := ce) (E := E) HE6.1 HE6.2 re fe lP
  have B7 := (((bth3 BV5 b6).setCell (p := ⟨P + 1, 0, none⟩) (by simp; omega) (.bool E.neg)).setCell (p := ⟨P + 1, 1, none⟩) (by simp; omega) (.slice ae E.mag.length ce)).setCell (p := ⟨P + 1, 2, none⟩) (by simp; omega) (.int .i64 E.exp)
  have HT7 := HT0.below B7
  have B8 := HW.out _ (BV0.trans (B7.mono (by omega)))
  clear k0 k1 k2 f0 f1 f2 HE6 x0 x1 x2 y0 y1 y2
  generalize ((v6.setCell ⟨P + 1, 0, none⟩ (.bool E.neg)).setCell ⟨P + 1, 1, none⟩ (.slice ae E.mag.length ce)).setCell ⟨P + 1, 2, none⟩ (.int .i64 E.exp) = V7 at *
  have q0 := P3.1.c0
  have q1 := P3.1.c1
  have q2 := P3.1.c2
  have t0 := HT7.c0
  have t1 := HT7.c1
  have t2 := HT7.c2
  rw [← Int.add_mul, ← Int.sub_mul, sgI_pw] at oc
  go_wp2_with (go_at_call 58; refine (oc _ _ _ _ _ P3.1.row HT7.row).mono ?_; rintro e v8 ⟨rfl, b8⟩)
  exact bodyPost_ret (v := .tuple #[.int .i64 (sgI (vI a + vI b - vI t)), .bool true]) (by simp [results, Tryd.results37, go_sem, sgI_wrap]) rfl ⟨rfl, bth3 B8 b8⟩
set_option maxRecDepth 100000 in
set_option maxHeartbeats 4000000 in
theorem holds_1 (a b c t : Nat) (ha : a < 18446744073709551616) (hb : b < 18446744073709551616) (hc : c < 18446744073709551616) (ht : t < 18446744073709551616) (fa : finB a = true) (fb : finB b = true) (fc : finB c = true) (ft : finB t = true) (w : World) (hT : TabW w) :
    Calls Tryd.prog 37 #[.int .i64 1, .float .f64 a, .float .f64 b, .float .f64 c, .float .f64 t] w fun e w' => e = .returned (.tuple #[.int .i64 (sgI (vI a - vI b - vI t)), .bool true]) ∧ Below w.heap.size w w' := by
  obtain ⟨X, eX, FX⟩ := fd_of fa
  obtain ⟨Y, eY, FY⟩ := fd_of fb
  obtain ⟨Z, eZ, FZ⟩ := fd_of fc
  obtain ⟨T, eT, FT⟩ := fd_of ft
  obtain ⟨V', hV'⟩ : ∃ V : Nat, V = 2098 := ⟨_, rfl⟩
  have va := vI_lt fa hV'
  have vb := vI_lt fb hV'
  have vc := vI_lt fc hV'
  have vt := vI_lt ft hV'
  have hb2 : bl (vI a * 2 ^ twP - vI b * 2 ^ twP).natAbs ≤ 16384 := bl_sm (n := V' + 1 + twP) (by
    rw [← Int.sub_mul, Int.natAbs_mul, pw_abs, Nat.pow_add, Nat.pow_succ]
    exact Nat.mul_lt_mul_of_pos_right (by omega) (Nat.two_pow_pos _)) (by unfold twP; omega)
  have FE := fd_dz hb2
  have lE := FE.2.1
  have eE := fd_sub FX FY hb2
  generalize dz (vI a * 2 ^ twP - vI b * 2 ^ twP) = E at *
  have oc := fun ao bo cap bcap w h1 h2 => Cmp_right E T ao bo cap bcap w h1 h2 FE.2.1 FT.2.1 FE.1 FT.1
  rw [fd_cmp FE FT] at oc
  have oa := fun ao bo cap bcap w h1 h2 h3 => Sub_any X Y ao bo cap bcap w h1 h2 FX.2.1 FY.2.1 h3
  rw [eE] at oa
  have od := fun w h => dyads_any a b c X Y Z ha hb hc eX eY eZ w h
  have ot := fun w h => Of_any t ht w h
  rw [eT] at ot
  clear eX eY eZ eT va vb vc vt hV' fa fb fc ft FY FZ
  have lT := FT.2.1
  have lX := FX.2.1
  go_enter Tryd.func37, Tryd.ntmps37
  go_upto_region 2 with (go_at_call 53; refine (od _ hT).mono ?_; rintro e w1 ⟨ax, cx, ay, cy, az, cz, rfl, rx, ry, rz, b1⟩)
  obtain ⟨HX, HY, HZ, s3, B4⟩ := three_box3 (cx := cx) (cy := cy) (cz := cz) rx ry rz
  have hT3 := tabW_below (tabW_below hT b1) B4
  have B3 := bth3 b1 B4
  generalize ((w1.alloc (.cells #[.bool X.neg, .slice ax X.mag.length cx, .int .i64 X.exp] 61)).alloc (.cells #[.bool Y.neg, .slice ay Y.mag.length cy, .int .i64 Y.exp] 61)).alloc (.cells #[.bool Z.neg, .slice az Z.mag.length cz, .int .i64 Z.exp] 61) = W3 at *
  generalize w1.heap.size = n1 at *
  clear rx ry rz b1 s3 od B4
  go_upto_region 3 with (go_at_call 54; refine (ot _ hT3).mono ?_; rintro e w2 ⟨at_, ct, rfl, rt, ftt, b2⟩)
  have hT2 := tabW_below hT3 b2
  have HX := HX.below b2
  have HY := HY.below b2
  have HZ := HZ.below b2
  have B2 := bth3 B3 b2
  clear hT3 B3 b2 ot ftt hT
  have l1 : n1 < w2.heap.size := World.block_lt_of_cell? w2 _ HX.c0
  have l2 : n1 + 1 < w2.heap.size := World.block_lt_of_cell? w2 _ HY.c0
  have l3 : n1 + 1 + 1 < w2.heap.size := World.block_lt_of_cell? w2 _ HZ.c0
  obtain ⟨V0, hV0⟩ : ∃ V0, w2.alloc (.cells #[.bool T.neg, .slice at_ T.mag.length ct, .int .i64 T.exp] 61) = V0 := ⟨_, rfl⟩
  have HT0 : Hd V0 w2.heap.size T at_ ct := by rw [← hV0]; exact Hd.new rt
  have ZT0 : Fzr V0 w2.heap.size := by rw [← hV0]; exact fz_new _ _ _ _
  have BV0 : Below w2.heap.size w2 V0 := by rw [← hV0]; exact bal _ _
  have sV0 : V0.heap.size = w2.heap.size + 1 := by rw [← hV0]; simp
  rw [hV0]
  clear hV0
  go_upto_region 15 with fail
  obtain ⟨V5, hV5⟩ : ∃ V5, V0.alloc (.cells #[.bool false, .slice none 0 0, .int .i64 0] 61) = V5 := ⟨_, rfl⟩
  have HE0 : Hd V5 V0.heap.size dy0 none 0 := by rw [← hV5]; exact Hd.new (d := dy0) (Or.inl rfl)
  have ZE0 : Fzr V5 V0.heap.size := by rw [← hV5]; exact fz_new _ _ _ _
  have BV5 : Below V0.heap.size V0 V5 := by rw [← hV5]; exact bal _ _
  have sV5 : V5.heap.size = V0.heap.size + 1 := by rw [← hV5]; simp
  rw [hV5]
  clear hV5
  have HT5 := HT0.below BV5
  have ZT5 := ZT0.below (by omega) BV5
  have K5 : Below w2.heap.size w2 V5 := bth3 BV0 BV5
  have hT5 := tabW_below hT2 K5
  have HX5 := HX.below K5
  have HY5 := HY.below K5
  have HZ5 := HZ.below K5
  rw [sV0] at HE0 ZE0 sV5
  generalize hp4 : w2.heap.size = P at *
  have ne1 : ¬ P + 1 = P := by omega
  have ne2 : ¬ P = P + 1 := by omega
  have HW : Hid (∀ v, Below P w2 v → Below w.heap.size w v) := fun v h => B2.trans (h.mono (by rw [← hp4]; exact B2.size))
  have lP : P + 1 < V5.heap.size := by omega
  have x0 := HX5.c0
  have x1 := HX5.c1
  have x2 := HX5.c2
  have y0 := HY5.c0
  have y1 := HY5.c1
  have y2 := HY5.c2
  go_upto_region 30 with (go_at_call 56; refine (oa _ _ _ _ _ HX5.row HY5.row hT5).mono ?_; rintro e v6 ⟨ae, ce, rfl, re, fe, b6⟩; have HE6 := HE0.six ZE0 b6; have k0 := HE6.1.c0; have k1 := HE6.1.c1; have k2 := HE6.1.c2; obtain ⟨f0, f1, f2⟩ := HE6.2)
  have P3 := put3r (c := ce) (E := E) HE6.1 HE6.2 re fe lP
  have B7 := (((bth3 BV5 b6).setCell (p := ⟨P + 1, 0, none⟩) (by simp; omega) (.bool E.neg)).setCell (p := ⟨P + 1, 1, none⟩) (by simp; omega) (.slice ae E.mag.length ce)).setCell (p := ⟨P + 1, 2, none⟩) (by simp; omega) (.int .i64 E.exp)
  have HT7 := HT0.below B7
  have B8 := HW.out _ (BV0.trans (B7.mono (by omega)))
  clear k0 k1 k2 f0 f1 f2 HE6 x0 x1 x2 y0 y1 y2
  generalize ((v6.setCell ⟨P + 1, 0, none⟩ (.bool E.neg)).setCell ⟨P + 1, 1, none⟩ (.slice ae E.mag.length ce)).setCell ⟨P + 1, 2, none⟩ (.int .i64 E.exp) = V7 at *
  have q0 := P3.1.c0
  have q1 := P3.1.c1
  have q2 := P3.1.c2
  have t0 := HT7.c0
  have t1 := HT7.c1
  have t2 := HT7.c2
  rw [← Int.sub_mul, ← Int.sub_mul, sgI_pw] at oc
  go_wp2_with (go_at_call 58; refine (oc _ _ _ _ _ P3.1.row HT7.row).mono ?_; rintro e v8 ⟨rfl, b8⟩)
  exact bodyPost_ret (v := .tuple #[.int .i64 (sgI (vI a - vI b - vI t)), .bool true]) (by simp [results, Tryd.results37, go_sem, sgI_wrap]) rfl ⟨rfl, bth3 B8 b8⟩
set_option maxRecDepth 100000 in
set_option maxHeartbeats 4000000 in
theorem holds_2 (a b c t : Nat) (ha : a < 18446744073709551616) (hb : b < 18446744073709551616) (hc : c < 18446744073709551616) (ht : t < 18446744073709551616) (fa : finB a = true) (fb : finB b = true) (fc : finB c = true) (ft : finB t = true) (w : World) (hT : TabW w) :
    Calls Tryd.prog 37 #[.int .i64 2, .float .f64 a, .float .f64 b, .float .f64 c, .float .f64 t] w fun e w' => e = .returned (.tuple #[.int .i64 (sgI (vI a * vI b - vI t * 2 ^ twP)), .bool true]) ∧ Below w.heap.size w w' := by
  obtain ⟨X, eX, FX⟩ := fd_of fa
  obtain ⟨Y, eY, FY⟩ := fd_of fb
  obtain ⟨Z, eZ, FZ⟩ := fd_of fc
  obtain ⟨T, eT, FT⟩ := fd_of ft
  obtain ⟨V', hV'⟩ : ∃ V : Nat, V = 2098 := ⟨_, rfl⟩
  have va := vI_lt fa hV'
  have vb := vI_lt fb hV'
  have vc := vI_lt fc hV'
  have vt := vI_lt ft hV'
  have hb2 : bl (vI a * vI b).natAbs ≤ 16384 := bl_sm (n := V' + V') (by
    rw [Int.natAbs_mul, Nat.pow_add]
    exact Nat.mul_lt_mul_of_lt_of_le va (Nat.le_of_lt vb) (Nat.two_pow_pos _)) (by omega)
  have FE := fd_dz hb2
  have lE := FE.2.1
  have eE := fd_mul FX FY hb2
  generalize dz (vI a * vI b) = E at *
  have oc := fun ao bo cap bcap w h1 h2 => Cmp_right E T ao bo cap bcap w h1 h2 FE.2.1 FT.2.1 FE.1 FT.1
  rw [fd_cmp FE FT] at oc
  have oa := fun ao bo cap bcap w h1 h2 h3 => mul_any X Y ao bo cap bcap w h1 h2 FX.2.1 FY.2.1 h3
  rw [eE] at oa
  have od := fun w h => dyads_any a b c X Y Z ha hb hc eX eY eZ w h
  have ot := fun w h => Of_any t ht w h
  rw [eT] at ot
  clear eX eY eZ eT va vb vc vt hV' fa fb fc ft FY FZ
  have lT := FT.2.1
  have lX := FX.2.1
  go_enter Tryd.func37, Tryd.ntmps37
  go_upto_region 2 with (go_at_call 53; refine (od _ hT).mono ?_; rintro e w1 ⟨ax, cx, ay, cy, az, cz, rfl, rx, ry, rz, b1⟩)
  obtain ⟨HX, HY, HZ, s3, B4⟩ := three_box3 (cx := cx) (cy := cy) (cz := cz) rx ry rz
  have hT3 := tabW_below (tabW_below hT b1) B4
  have B3 := bth3 b1 B4
  generalize ((w1.alloc (.cells #[.bool X.neg, .slice ax X.mag.length cx, .int .i64 X.exp] 61)).alloc (.cells #[.bool Y.neg, .slice ay Y.mag.length cy, .int .i64 Y.exp] 61)).alloc (.cells #[.bool Z.neg, .slice az Z.mag.length cz, .int .i64 Z.exp] 61) = W3 at *
  generalize w1.heap.size = n1 at *
  clear rx ry rz b1 s3 od B4
  go_upto_region 3 with (go_at_call 54; refine (ot _ hT3).mono ?_; rintro e w2 ⟨at_, ct, rfl, rt, ftt, b2⟩)
  have hT2 := tabW_below hT3 b2
  have HX := HX.below b2
  have HY := HY.below b2
  have HZ := HZ.below b2
  have B2 := bth3 B3 b2
  clear hT3 B3 b2 ot ftt hT
  have l1 : n1 < w2.heap.size := World.block_lt_of_cell? w2 _ HX.c0
  have l2 : n1 + 1 < w2.heap.size := World.block_lt_of_cell? w2 _ HY.c0
  have l3 : n1 + 1 + 1 < w2.heap.size := World.block_lt_of_cell? w2 _ HZ.c0
  obtain ⟨V0, hV0⟩ : ∃ V0, w2.alloc (.cells #[.bool T.neg, .slice at_ T.mag.length ct, .int .i64 T.exp] 61) = V0 := ⟨_, rfl⟩
  have HT0 : Hd V0 w2.heap.size T at_ ct := by rw [← hV0]; exact Hd.new rt
  have ZT0 : Fzr V0 w2.heap.size := by rw [← hV0]; exact fz_new _ _ _ _
  have BV0 : Below w2.heap.size w2 V0 := by rw [← hV0]; exact bal _ _
  have sV0 : V0.heap.size = w2.heap.size + 1 := by rw [← hV0]; simp
  rw [hV0]
  clear hV0
  go_upto_region 17 with fail
  obtain ⟨V5, hV5⟩ : ∃ V5, V0.alloc (.cells #[.bool false, .slice none 0 0, .int .i64 0] 61) = V5 := ⟨_, rfl⟩
  have HE0 : Hd V5 V0.heap.size dy0 none 0 := by rw [← hV5]; exact Hd.new (d := dy0) (Or.inl rfl)
  have ZE0 : Fzr V5 V0.heap.size := by rw [← hV5]; exact fz_new _ _ _ _
  have BV5 : Below V0.heap.size V0 V5 := by rw [← hV5]; exact bal _ _
  have sV5 : V5.heap.size = V0.heap.size + 1 := by rw [← hV5]; simp
  rw [hV5]
  clear hV5
  have HT5 := HT0.below BV5
  have ZT5 := ZT0.below (by omega) BV5
  have K5 : Below w2.heap.size w2 V5 := bth3 BV0 BV5
  have hT5 := tabW_below hT2 K5
  have HX5 := HX.below K5
  have HY5 := HY.below K5
  have HZ5 := HZ.below K5
  rw [sV0] at HE0 ZE0 sV5
  generalize hp4 : w2.heap.size = P at *
  have ne1 : ¬ P + 1 = P := by omega
  have ne2 : ¬ P = P + 1 := by omega
  have HW : Hid (∀ v, Below P w2 v → Below w.heap.size w v) := fun v h => B2.trans (h.mono (by rw [← hp4]; exact B2.size))
  have lP : P + 1 < V5.heap.size := by omega
  have x0 := HX5.c0
  have x1 := HX5.c1
  have x2 := HX5.c2
  have y0 := HY5.c0
  have y1 := HY5.c1
  have y2 := HY5.c2
  go_upto_region 30 with (go_at_call 57; refine (oa _ _ _ _ _ HX5.row HY5.row hT5).mono ?_; rintro e v6 ⟨ae, ce, rfl, re, fe, b6⟩; have HE6 := HE0.six ZE0 b6; have k0 := HE6.1.c0; have k1 := HE6.1.c1; have k2 := HE6.1.c2; obtain ⟨f0, f1, f2⟩ := HE6.2)
  have P3 := put3r (c := ce) (E := E) HE6.1 HE6.2 re fe lP
  have B7 := (((bth3 BV5 b6).setCell (p := ⟨P + 1, 0, none⟩) (by simp; omega) (.bool E.neg)).setCell (p := ⟨P + 1, 1, none⟩) (by simp; omega) (.slice ae E.mag.length ce)).setCell (p := ⟨P + 1, 2, none⟩) (by simp; omega) (.int .i64 E.exp)
  have HT7 := HT0.below B7
  have B8 := HW.out _ (BV0.trans (B7.mono (by omega)))
  clear k0 k1 k2 f0 f1 f2 HE6 x0 x1 x2 y0 y1 y2
  generalize ((v6.setCell ⟨P + 1, 0, none⟩ (.bool E.neg)).setCell ⟨P + 1, 1, none⟩ (.slice ae E.mag.length ce)).setCell ⟨P + 1, 2, none⟩ (.int .i64 E.exp) = V7 at *
  have q0 := P3.1.c0
  have q1 := P3.1.c1
  have q2 := P3.1.c2
  have t0 := HT7.c0
  have t1 := HT7.c1
  have t2 := HT7.c2
  
  go_wp2_with (go_at_call 58; refine (oc _ _ _ _ _ P3.1.row HT7.row).mono ?_; rintro e v8 ⟨rfl, b8⟩)
  exact bodyPost_ret (v := .tuple #[.int .i64 (sgI (vI a * vI b - vI t * 2 ^ twP)), .bool true]) (by simp [results, Tryd.results37, go_sem, sgI_wrap]) rfl ⟨rfl, bth3 B8 b8⟩
set_option maxRecDepth 100000 in
set_option maxHeartbeats 4000000 in
theorem holds_3 (a b c t : Nat) (ha : a < 18446744073709551616) (hb : b < 18446744073709551616) (hc : c < 18446744073709551616) (ht : t < 18446744073709551616) (fa : finB a = true) (fb : finB b = true) (fc : finB c = true) (ft : finB t = true) (hz : rung b ≠ 0) (w : World) (hT : TabW w) :
    Calls Tryd.prog 37 #[.int .i64 3, .float .f64 a, .float .f64 b, .float .f64 c, .float .f64 t] w fun e w' => e = .returned (.tuple #[.int .i64 (tnI (sgn b) (sgI (vI a * 2 ^ twP - vI t * vI b))), .bool true]) ∧ Below w.heap.size w w' := by
  obtain ⟨X, eX, FX⟩ := fd_of fa
  obtain ⟨Y, eY, FY⟩ := fd_of fb
  obtain ⟨Z, eZ, FZ⟩ := fd_of fc
  obtain ⟨T, eT, FT⟩ := fd_of ft
  obtain ⟨V', hV'⟩ : ∃ V : Nat, V = 2098 := ⟨_, rfl⟩
  have va := vI_lt fa hV'
  have vb := vI_lt fb hV'
  have vc := vI_lt fc hV'
  have vt := vI_lt ft hV'
  have hb2 : bl (vI t * vI b).natAbs ≤ 16384 := bl_sm (n := V' + V') (by
    rw [Int.natAbs_mul, Nat.pow_add]
    exact Nat.mul_lt_mul_of_lt_of_le vt (Nat.le_of_lt vb) (Nat.two_pow_pos _)) (by omega)
  have FE := fd_dz hb2
  have lE := FE.2.1
  have eE := fd_mul FT FY hb2
  generalize dz (vI t * vI b) = E at *
  have oc := fun ao bo cap bcap w h1 h2 => Cmp_right X E ao bo cap bcap w h1 h2 FX.2.1 FE.2.1 FX.1 FE.1
  rw [fd_cmp FX FE] at oc
  have om := fun ao bo cap bcap w h1 h2 h3 => mul_any T Y ao bo cap bcap w h1 h2 FT.2.1 FY.2.1 h3
  rw [eE] at om
  have hb0 : (FloatKind.f64.format.order b 0 == some .eq) = false := by rw [zero_eq hb]; simpa using hz
  have hbl : (FloatKind.f64.format.order b 0 == some .lt) = sgn b := by
    have hr := fin_rung fb
    rw [zero_lt hb]
    unfold place
    have nb : nanB b = false := rung_nan (by omega)
    rw [nb]
    cases sgn b
    · simp
    · simp; omega
  have od := fun w h => dyads_any a b c X Y Z ha hb hc eX eY eZ w h
  have ot := fun w h => Of_any t ht w h
  rw [eT] at ot
  clear eX eY eZ eT va vb vc vt hV' fa fb fc ft FY FZ
  have lT := FT.2.1
  have lX := FX.2.1
  go_enter Tryd.func37, Tryd.ntmps37
  go_upto_region 2 with (go_at_call 53; refine (od _ hT).mono ?_; rintro e w1 ⟨ax, cx, ay, cy, az, cz, rfl, rx, ry, rz, b1⟩)
  obtain ⟨HX, HY, HZ, s3, B4⟩ := three_box3 (cx := cx) (cy := cy) (cz := cz) rx ry rz
  have hT3 := tabW_below (tabW_below hT b1) B4
  have B3 := bth3 b1 B4
  generalize ((w1.alloc (.cells #[.bool X.neg, .slice ax X.mag.length cx, .int .i64 X.exp] 61)).alloc (.cells #[.bool Y.neg, .slice ay Y.mag.length cy, .int .i64 Y.exp] 61)).alloc (.cells #[.bool Z.neg, .slice az Z.mag.length cz, .int .i64 Z.exp] 61) = W3 at *
  generalize w1.heap.size = n1 at *
  clear rx ry rz b1 s3 od B4
  go_upto_region 3 with (go_at_call 54; refine (ot _ hT3).mono ?_; rintro e w2 ⟨at_, ct, rfl, rt, ftt, b2⟩)
  have hT2 := tabW_below hT3 b2
  have HX := HX.below b2
  have HY := HY.below b2
  have HZ := HZ.below b2
  have B2 := bth3 B3 b2
  clear hT3 B3 b2 ot ftt hT
  have l1 : n1 < w2.heap.size := World.block_lt_of_cell? w2 _ HX.c0
  have l2 : n1 + 1 < w2.heap.size := World.block_lt_of_cell? w2 _ HY.c0
  have l3 : n1 + 1 + 1 < w2.heap.size := World.block_lt_of_cell? w2 _ HZ.c0
  obtain ⟨V0, hV0⟩ : ∃ V0, w2.alloc (.cells #[.bool T.neg, .slice at_ T.mag.length ct, .int .i64 T.exp] 61) = V0 := ⟨_, rfl⟩
  have HT0 : Hd V0 w2.heap.size T at_ ct := by rw [← hV0]; exact Hd.new rt
  have ZT0 : Fzr V0 w2.heap.size := by rw [← hV0]; exact fz_new _ _ _ _
  have BV0 : Below w2.heap.size w2 V0 := by rw [← hV0]; exact bal _ _
  have sV0 : V0.heap.size = w2.heap.size + 1 := by rw [← hV0]; simp
  rw [hV0]
  clear hV0
  go_upto_region 19 with fail
  obtain ⟨V5, hV5⟩ : ∃ V5, V0.alloc (.cells #[.bool false, .slice none 0 0, .int .i64 0] 61) = V5 := ⟨_, rfl⟩
  have HE0 : Hd V5 V0.heap.size dy0 none 0 := by rw [← hV5]; exact Hd.new (d := dy0) (Or.inl rfl)
  have ZE0 : Fzr V5 V0.heap.size := by rw [← hV5]; exact fz_new _ _ _ _
  have BV5 : Below V0.heap.size V0 V5 := by rw [← hV5]; exact bal _ _
  have sV5 : V5.heap.size = V0.heap.size + 1 := by rw [← hV5]; simp
  rw [hV5]
  clear hV5
  have HT5 := HT0.below BV5
  have ZT5 := ZT0.below (by omega) BV5
  have K5 : Below w2.heap.size w2 V5 := bth3 BV0 BV5
  have hT5 := tabW_below hT2 K5
  have HX5 := HX.below K5
  have HY5 := HY.below K5
  have HZ5 := HZ.below K5
  rw [sV0] at HE0 ZE0 sV5
  generalize hp4 : w2.heap.size = P at *
  have ne1 : ¬ P + 1 = P := by omega
  have ne2 : ¬ P = P + 1 := by omega
  have HW : Hid (∀ v, Below P w2 v → Below w.heap.size w v) := fun v h => B2.trans (h.mono (by rw [← hp4]; exact B2.size))
  have lP : P + 1 < V5.heap.size := by omega
  have x0 := HX5.c0
  have x1 := HX5.c1
  have x2 := HX5.c2
  have k0 := HE0.c0
  have k1 := HE0.c1
  have k2 := HE0.c2
  obtain ⟨f0, f1, f2⟩ := ZE0
  go_upto_region 20 with fail
  have hne : ∀ b off, ax = some ⟨b, off, none⟩ → X.mag.length ≠ 0 → b ≠ P + 1 := fun b off e h0 => by have := row_lt HX.row b off e h0; omega
  have P3 := put3n (c := cx) (E := X) HE0 HX5.row hne
  have B6 := ((BV5.setCell (p := ⟨P + 1, 0, none⟩) (by simp; omega) (.bool X.neg)).setCell (p := ⟨P + 1, 1, none⟩) (by simp; omega) (.slice ax X.mag.length cx)).setCell (p := ⟨P + 1, 2, none⟩) (by simp; omega) (.int .i64 X.exp)
  have HT6 := HT0.below B6
  have ZT6 := ZT0.below (by omega) B6
  have K6 : Below P w2 _ := BV0.trans (B6.mono (by omega))
  have HY6 := (show Hd _ _ _ _ _ from by rw [← hp4] at K6; exact HY.below K6)
  have hT6 := (show TabW _ from by rw [← hp4] at K6; exact tabW_below hT2 K6)
  rw [hp4] at HY6 hT6
  have s6 := World.block_lt_of_cell? _ _ P3.c0
  try simp only at s6
  clear k0 k1 k2 f0 f1 f2 x0 x1 x2
  generalize ((V5.setCell ⟨P + 1, 0, none⟩ (.bool X.neg)).setCell ⟨P + 1, 1, none⟩ (.slice ax X.mag.length cx)).setCell ⟨P + 1, 2, none⟩ (.int .i64 X.exp) = V6 at *
  have t0 := HT6.c0
  have t1 := HT6.c1
  have t2 := HT6.c2
  have y0 := HY6.c0
  have y1 := HY6.c1
  have y2 := HY6.c2
  go_upto_region 21 with (go_at_call 57; refine (om _ _ _ _ _ HT6.row HY6.row hT6).mono ?_; rintro e v7 ⟨ae, ce, rfl, re, fe, b7⟩; have HT7 := HT6.six ZT6 b7; have k0 := HT7.1.c0; have k1 := HT7.1.c1; have k2 := HT7.1.c2; obtain ⟨f0, f1, f2⟩ := HT7.2)
  have Q3 := put3r (c := ce) (E := E) HT7.1 HT7.2 re fe (show P < V6.heap.size by omega)
  have K8 : Below P w2 _ := (((K6.trans (b7.mono (by omega))).setCell (p := ⟨P, 0, none⟩) (Nat.le_refl _) (.bool E.neg)).setCell (p := ⟨P, 1, none⟩) (Nat.le_refl _) (.slice ae E.mag.length ce)).setCell (p := ⟨P, 2, none⟩) (Nat.le_refl _) (.int .i64 E.exp)
  have rX8 := (show LRow _ _ _ from by rw [← hp4] at K8; exact HX.row.below K8)
  rw [hp4] at rX8
  have HX8 := (P3.below b7).oth (q := P) (by omega) (.bool E.neg) (.slice ae E.mag.length ce) (.int .i64 E.exp) rX8
  have B8 := HW.out _ K8
  clear k0 k1 k2 f0 f1 f2 HT7 t0 t1 t2 y0 y1 y2
  generalize ((v7.setCell ⟨P, 0, none⟩ (.bool E.neg)).setCell ⟨P, 1, none⟩ (.slice ae E.mag.length ce)).setCell ⟨P, 2, none⟩ (.int .i64 E.exp) = V8 at *
  have q0 := HX8.c0
  have q1 := HX8.c1
  have q2 := HX8.c2
  have t0 := Q3.1.c0
  have t1 := Q3.1.c1
  have t2 := Q3.1.c2
  cases hsb : sgn b
  · rw [hsb] at hbl
    go_wp2_with (go_at_call 58; refine (oc _ _ _ _ _ HX8.row Q3.1.row).mono ?_; rintro e v9 ⟨rfl, b9⟩)
    exact bodyPost_ret (v := .tuple #[.int .i64 (sgI (vI a * 2 ^ twP - vI t * vI b)), .bool true]) (by simp [results, Tryd.results37, go_sem, sgI_wrap]) rfl ⟨by first | rfl | (rw [hsb]; rfl), bth3 B8 b9⟩
  · rw [hsb] at hbl
    go_wp2_with (go_at_call 58; refine (oc _ _ _ _ _ HX8.row Q3.1.row).mono ?_; rintro e v9 ⟨rfl, b9⟩)
    exact bodyPost_ret (v := .tuple #[.int .i64 (-sgI (vI a * 2 ^ twP - vI t * vI b)), .bool true]) (by simp [results, Tryd.results37, go_sem, sgI_wrapn]) rfl ⟨by first | rfl | (rw [hsb]; rfl), bth3 B8 b9⟩
set_option maxRecDepth 100000 in
set_option maxHeartbeats 4000000 in
theorem holds_4 (a b c t : Nat) (ha : a < 18446744073709551616) (hb : b < 18446744073709551616) (hc : c < 18446744073709551616) (ht : t < 18446744073709551616) (fa : finB a = true) (fb : finB b = true) (fc : finB c = true) (ft : finB t = true) (hz : sgn a = false ∨ rung a = 0) (hy : sgn t = false ∨ rung t = 0) (w : World) (hT : TabW w) :
    Calls Tryd.prog 37 #[.int .i64 4, .float .f64 a, .float .f64 b, .float .f64 c, .float .f64 t] w fun e w' => e = .returned (.tuple #[.int .i64 (sgI (vI a * 2 ^ twP - vI t * vI t)), .bool true]) ∧ Below w.heap.size w w' := by
  obtain ⟨X, eX, FX⟩ := fd_of fa
  obtain ⟨Y, eY, FY⟩ := fd_of fb
  obtain ⟨Z, eZ, FZ⟩ := fd_of fc
  obtain ⟨T, eT, FT⟩ := fd_of ft
  obtain ⟨V', hV'⟩ : ∃ V : Nat, V = 2098 := ⟨_, rfl⟩
  have va := vI_lt fa hV'
  have vb := vI_lt fb hV'
  have vc := vI_lt fc hV'
  have vt := vI_lt ft hV'
  have hb2 : bl (vI t * vI t).natAbs ≤ 16384 := bl_sm (n := V' + V') (by
    rw [Int.natAbs_mul, Nat.pow_add]
    exact Nat.mul_lt_mul_of_lt_of_le vt (Nat.le_of_lt vt) (Nat.two_pow_pos _)) (by omega)
  have FE := fd_dz hb2
  have lE := FE.2.1
  have eE := fd_mul FT FT hb2
  generalize dz (vI t * vI t) = E at *
  have oc := fun ao bo cap bcap w h1 h2 => Cmp_right X E ao bo cap bcap w h1 h2 FX.2.1 FE.2.1 FX.1 FE.1
  rw [fd_cmp FX FE] at oc
  have om := fun ao bo cap bcap w h1 h2 h3 => mul_any T T ao bo cap bcap w h1 h2 FT.2.1 FT.2.1 h3
  rw [eE] at om
  have hal : (FloatKind.f64.format.order a 0 == some .lt) = false := not_neg ha fa hz
  have htl : (FloatKind.f64.format.order t 0 == some .lt) = false := not_neg ht ft hy
  have od := fun w h => dyads_any a b c X Y Z ha hb hc eX eY eZ w h
  have ot := fun w h => Of_any t ht w h
  rw [eT] at ot
  clear eX eY eZ eT va vb vc vt hV' fa fb fc ft FY FZ
  have lT := FT.2.1
  have lX := FX.2.1
  go_enter Tryd.func37, Tryd.ntmps37
  go_upto_region 2 with (go_at_call 53; refine (od _ hT).mono ?_; rintro e w1 ⟨ax, cx, ay, cy, az, cz, rfl, rx, ry, rz, b1⟩)
  obtain ⟨HX, HY, HZ, s3, B4⟩ := three_box3 (cx := cx) (cy := cy) (cz := cz) rx ry rz
  have hT3 := tabW_below (tabW_below hT b1) B4
  have B3 := bth3 b1 B4
  generalize ((w1.alloc (.cells #[.bool X.neg, .slice ax X.mag.length cx, .int .i64 X.exp] 61)).alloc (.cells #[.bool Y.neg, .slice ay Y.mag.length cy, .int .i64 Y.exp] 61)).alloc (.cells #[.bool Z.neg, .slice az Z.mag.length cz, .int .i64 Z.exp] 61) = W3 at *
  generalize w1.heap.size = n1 at *
  clear rx ry rz b1 s3 od B4
  go_upto_region 3 with (go_at_call 54; refine (ot _ hT3).mono ?_; rintro e w2 ⟨at_, ct, rfl, rt, ftt, b2⟩)
  have hT2 := tabW_below hT3 b2
  have HX := HX.below b2
  have HY := HY.below b2
  have HZ := HZ.below b2
  have B2 := bth3 B3 b2
  clear hT3 B3 b2 ot ftt hT
  have l1 : n1 < w2.heap.size := World.block_lt_of_cell? w2 _ HX.c0
  have l2 : n1 + 1 < w2.heap.size := World.block_lt_of_cell? w2 _ HY.c0
  have l3 : n1 + 1 + 1 < w2.heap.size := World.block_lt_of_cell? w2 _ HZ.c0
  obtain ⟨V0, hV0⟩ : ∃ V0, w2.alloc (.cells #[.bool T.neg, .slice at_ T.mag.length ct, .int .i64 T.exp] 61) = V0 := ⟨_, rfl⟩
  have HT0 : Hd V0 w2.heap.size T at_ ct := by rw [← hV0]; exact Hd.new rt
  have ZT0 : Fzr V0 w2.heap.size := by rw [← hV0]; exact fz_new _ _ _ _
  have BV0 : Below w2.heap.size w2 V0 := by rw [← hV0]; exact bal _ _
  have sV0 : V0.heap.size = w2.heap.size + 1 := by rw [← hV0]; simp
  rw [hV0]
  clear hV0
  go_upto_region 26 with fail
  obtain ⟨V5, hV5⟩ : ∃ V5, V0.alloc (.cells #[.bool false, .slice none 0 0, .int .i64 0] 61) = V5 := ⟨_, rfl⟩
  have HE0 : Hd V5 V0.heap.size dy0 none 0 := by rw [← hV5]; exact Hd.new (d := dy0) (Or.inl rfl)
  have ZE0 : Fzr V5 V0.heap.size := by rw [← hV5]; exact fz_new _ _ _ _
  have BV5 : Below V0.heap.size V0 V5 := by rw [← hV5]; exact bal _ _
  have sV5 : V5.heap.size = V0.heap.size + 1 := by rw [← hV5]; simp
  rw [hV5]
  clear hV5
  have HT5 := HT0.below BV5
  have ZT5 := ZT0.below (by omega) BV5
  have K5 : Below w2.heap.size w2 V5 := bth3 BV0 BV5
  have hT5 := tabW_below hT2 K5
  have HX5 := HX.below K5
  have HY5 := HY.below K5
  have HZ5 := HZ.below K5
  rw [sV0] at HE0 ZE0 sV5
  generalize hp4 : w2.heap.size = P at *
  have ne1 : ¬ P + 1 = P := by omega
  have ne2 : ¬ P = P + 1 := by omega
  have HW : Hid (∀ v, Below P w2 v → Below w.heap.size w v) := fun v h => B2.trans (h.mono (by rw [← hp4]; exact B2.size))
  have lP : P + 1 < V5.heap.size := by omega
  have x0 := HX5.c0
  have x1 := HX5.c1
  have x2 := HX5.c2
  have k0 := HE0.c0
  have k1 := HE0.c1
  have k2 := HE0.c2
  obtain ⟨f0, f1, f2⟩ := ZE0
  go_upto_region 27 with fail
  have hne : ∀ b off, ax = some ⟨b, off, none⟩ → X.mag.length ≠ 0 → b ≠ P + 1 := fun b off e h0 => by have := row_lt HX.row b off e h0; omega
  have P3 := put3n (c := cx) (E := X) HE0 HX5.row hne
  have B6 := ((BV5.setCell (p := ⟨P + 1, 0, none⟩) (by simp; omega) (.bool X.neg)).setCell (p := ⟨P + 1, 1, none⟩) (by simp; omega) (.slice ax X.mag.length cx)).setCell (p := ⟨P + 1, 2, none⟩) (by simp; omega) (.int .i64 X.exp)
  have HT6 := HT0.below B6
  have ZT6 := ZT0.below (by omega) B6
  have K6 : Below P w2 _ := BV0.trans (B6.mono (by omega))
  have HY6 := (show Hd _ _ _ _ _ from by rw [← hp4] at K6; exact HY.below K6)
  have hT6 := (show TabW _ from by rw [← hp4] at K6; exact tabW_below hT2 K6)
  rw [hp4] at HY6 hT6
  have s6 := World.block_lt_of_cell? _ _ P3.c0
  try simp only at s6
  clear k0 k1 k2 f0 f1 f2 x0 x1 x2
  generalize ((V5.setCell ⟨P + 1, 0, none⟩ (.bool X.neg)).setCell ⟨P + 1, 1, none⟩ (.slice ax X.mag.length cx)).setCell ⟨P + 1, 2, none⟩ (.int .i64 X.exp) = V6 at *
  have t0 := HT6.c0
  have t1 := HT6.c1
  have t2 := HT6.c2
  have y0 := HY6.c0
  have y1 := HY6.c1
  have y2 := HY6.c2
  go_upto_region 28 with (go_at_call 57; refine (om _ _ _ _ _ HT6.row HT6.row hT6).mono ?_; rintro e v7 ⟨ae, ce, rfl, re, fe, b7⟩; have HT7 := HT6.six ZT6 b7; have k0 := HT7.1.c0; have k1 := HT7.1.c1; have k2 := HT7.1.c2; obtain ⟨f0, f1, f2⟩ := HT7.2)
  have Q3 := put3r (c := ce) (E := E) HT7.1 HT7.2 re fe (show P < V6.heap.size by omega)
  have K8 : Below P w2 _ := (((K6.trans (b7.mono (by omega))).setCell (p := ⟨P, 0, none⟩) (Nat.le_refl _) (.bool E.neg)).setCell (p := ⟨P, 1, none⟩) (Nat.le_refl _) (.slice ae E.mag.length ce)).setCell (p := ⟨P, 2, none⟩) (Nat.le_refl _) (.int .i64 E.exp)
  have rX8 := (show LRow _ _ _ from by rw [← hp4] at K8; exact HX.row.below K8)
  rw [hp4] at rX8
  have HX8 := (P3.below b7).oth (q := P) (by omega) (.bool E.neg) (.slice ae E.mag.length ce) (.int .i64 E.exp) rX8
  have B8 := HW.out _ K8
  clear k0 k1 k2 f0 f1 f2 HT7 t0 t1 t2 y0 y1 y2
  generalize ((v7.setCell ⟨P, 0, none⟩ (.bool E.neg)).setCell ⟨P, 1, none⟩ (.slice ae E.mag.length ce)).setCell ⟨P, 2, none⟩ (.int .i64 E.exp) = V8 at *
  have q0 := HX8.c0
  have q1 := HX8.c1
  have q2 := HX8.c2
  have t0 := Q3.1.c0
  have t1 := Q3.1.c1
  have t2 := Q3.1.c2
  go_wp2_with (go_at_call 58; refine (oc _ _ _ _ _ HX8.row Q3.1.row).mono ?_; rintro e v9 ⟨rfl, b9⟩)
  exact bodyPost_ret (v := .tuple #[.int .i64 (sgI (vI a * 2 ^ twP - vI t * vI t)), .bool true]) (by simp [results, Tryd.results37, go_sem, sgI_wrap]) rfl ⟨rfl, bth3 B8 b9⟩
set_option maxRecDepth 100000 in
set_option maxHeartbeats 4000000 in
theorem holds_5 (a b c t : Nat) (ha : a < 18446744073709551616) (hb : b < 18446744073709551616) (hc : c < 18446744073709551616) (ht : t < 18446744073709551616) (fa : finB a = true) (fb : finB b = true) (fc : finB c = true) (ft : finB t = true) (w : World) (hT : TabW w) :
    Calls Tryd.prog 37 #[.int .i64 5, .float .f64 a, .float .f64 b, .float .f64 c, .float .f64 t] w fun e w' => e = .returned (.tuple #[.int .i64 (sgI (exX a b c - vI t * 2 ^ twP)), .bool true]) ∧ Below w.heap.size w w' := by
  obtain ⟨X, eX, FX⟩ := fd_of fa
  obtain ⟨Y, eY, FY⟩ := fd_of fb
  obtain ⟨Z, eZ, FZ⟩ := fd_of fc
  obtain ⟨T, eT, FT⟩ := fd_of ft
  obtain ⟨V', hV'⟩ : ∃ V : Nat, V = 2098 := ⟨_, rfl⟩
  have va := vI_lt fa hV'
  have vb := vI_lt fb hV'
  have vc := vI_lt fc hV'
  have vt := vI_lt ft hV'
  have hb2 : bl (vI a * vI b).natAbs ≤ 16384 := bl_sm (n := V' + V') (by
    rw [Int.natAbs_mul, Nat.pow_add]
    exact Nat.mul_lt_mul_of_lt_of_le va (Nat.le_of_lt vb) (Nat.two_pow_pos _)) (by omega)
  have FE := fd_dz hb2
  have lE := FE.2.1
  have eE := fd_mul FX FY hb2
  have hb3 := (exX_lt fa fb fc).2
  rw [exX_sum] at hb3
  have FG := fd_dz hb3
  have lG := FG.2.1
  have eG := fd_add FE FZ hb3
  rw [exX_sum]
  generalize dz (vI a * vI b) = E at *
  generalize dz (vI a * vI b + vI c * 2 ^ twP) = G at *
  have oc := fun ao bo cap bcap w h1 h2 => Cmp_right G T ao bo cap bcap w h1 h2 FG.2.1 FT.2.1 FG.1 FT.1
  rw [fd_cmp FG FT] at oc
  have oa := fun ao bo cap bcap w h1 h2 h3 => mul_any X Y ao bo cap bcap w h1 h2 FX.2.1 FY.2.1 h3
  rw [eE] at oa
  have oA := fun ao bo cap bcap w h1 h2 h3 => Add_any E Z ao bo cap bcap w h1 h2 FE.2.1 FZ.2.1 h3
  rw [eG] at oA
  have od := fun w h => dyads_any a b c X Y Z ha hb hc eX eY eZ w h
  have ot := fun w h => Of_any t ht w h
  rw [eT] at ot
  clear eX eY eZ eT va vb vc vt hV' fa fb fc ft FY FZ
  have lT := FT.2.1
  have lX := FX.2.1
  go_enter Tryd.func37, Tryd.ntmps37
  go_upto_region 2 with (go_at_call 53; refine (od _ hT).mono ?_; rintro e w1 ⟨ax, cx, ay, cy, az, cz, rfl, rx, ry, rz, b1⟩)
  obtain ⟨HX, HY, HZ, s3, B4⟩ := three_box3 (cx := cx) (cy := cy) (cz := cz) rx ry rz
  have hT3 := tabW_below (tabW_below hT b1) B4
  have B3 := bth3 b1 B4
  generalize ((w1.alloc (.cells #[.bool X.neg, .slice ax X.mag.length cx, .int .i64 X.exp] 61)).alloc (.cells #[.bool Y.neg, .slice ay Y.mag.length cy, .int .i64 Y.exp] 61)).alloc (.cells #[.bool Z.neg, .slice az Z.mag.length cz, .int .i64 Z.exp] 61) = W3 at *
  generalize w1.heap.size = n1 at *
  clear rx ry rz b1 s3 od B4
  go_upto_region 3 with (go_at_call 54; refine (ot _ hT3).mono ?_; rintro e w2 ⟨at_, ct, rfl, rt, ftt, b2⟩)
  have hT2 := tabW_below hT3 b2
  have HX := HX.below b2
  have HY := HY.below b2
  have HZ := HZ.below b2
  have B2 := bth3 B3 b2
  clear hT3 B3 b2 ot ftt hT
  have l1 : n1 < w2.heap.size := World.block_lt_of_cell? w2 _ HX.c0
  have l2 : n1 + 1 < w2.heap.size := World.block_lt_of_cell? w2 _ HY.c0
  have l3 : n1 + 1 + 1 < w2.heap.size := World.block_lt_of_cell? w2 _ HZ.c0
  obtain ⟨V0, hV0⟩ : ∃ V0, w2.alloc (.cells #[.bool T.neg, .slice at_ T.mag.length ct, .int .i64 T.exp] 61) = V0 := ⟨_, rfl⟩
  have HT0 : Hd V0 w2.heap.size T at_ ct := by rw [← hV0]; exact Hd.new rt
  have ZT0 : Fzr V0 w2.heap.size := by rw [← hV0]; exact fz_new _ _ _ _
  have BV0 : Below w2.heap.size w2 V0 := by rw [← hV0]; exact bal _ _
  have sV0 : V0.heap.size = w2.heap.size + 1 := by rw [← hV0]; simp
  rw [hV0]
  clear hV0
  go_upto_region 9 with fail
  obtain ⟨V5, hV5⟩ : ∃ V5, V0.alloc (.cells #[.bool false, .slice none 0 0, .int .i64 0] 61) = V5 := ⟨_, rfl⟩
  have HE0 : Hd V5 V0.heap.size dy0 none 0 := by rw [← hV5]; exact Hd.new (d := dy0) (Or.inl rfl)
  have ZE0 : Fzr V5 V0.heap.size := by rw [← hV5]; exact fz_new _ _ _ _
  have BV5 : Below V0.heap.size V0 V5 := by rw [← hV5]; exact bal _ _
  have sV5 : V5.heap.size = V0.heap.size + 1 := by rw [← hV5]; simp
  rw [hV5]
  clear hV5
  have HT5 := HT0.below BV5
  have ZT5 := ZT0.below (by omega) BV5
  have K5 : Below w2.heap.size w2 V5 := bth3 BV0 BV5
  have hT5 := tabW_below hT2 K5
  have HX5 := HX.below K5
  have HY5 := HY.below K5
  have HZ5 := HZ.below K5
  rw [sV0] at HE0 ZE0 sV5
  generalize hp4 : w2.heap.size = P at *
  have ne1 : ¬ P + 1 = P := by omega
  have ne2 : ¬ P = P + 1 := by omega
  have HW : Hid (∀ v, Below P w2 v → Below w.heap.size w v) := fun v h => B2.trans (h.mono (by rw [← hp4]; exact B2.size))
  have lP : P + 1 < V5.heap.size := by omega
  have x0 := HX5.c0
  have x1 := HX5.c1
  have x2 := HX5.c2
  have y0 := HY5.c0
  have y1 := HY5.c1
  have y2 := HY5.c2
  go_upto_region 11 with (go_at_call 57; refine (oa _ _ _ _ _ HX5.row HY5.row hT5).mono ?_; rintro e v6 ⟨ae, ce, rfl, re, fe, b6⟩; have HE6 := HE0.six ZE0 b6; have k0 := HE6.1.c0; have k1 := HE6.1.c1; have k2 := HE6.1.c2; obtain ⟨f0, f1, f2⟩ := HE6.2)
  have P3 := put3r (c := ce) (E := E) HE6.1 HE6.2 re fe lP
  have B7 := (((bth3 BV5 b6).setCell (p := ⟨P + 1, 0, none⟩) (by simp; omega) (.bool E.neg)).setCell (p := ⟨P + 1, 1, none⟩) (by simp; omega) (.slice ae E.mag.length ce)).setCell (p := ⟨P + 1, 2, none⟩) (by simp; omega) (.int .i64 E.exp)
  have K7 : Below P w2 _ := BV0.trans (B7.mono (by omega))
  have HZ7 := (show Hd _ _ _ _ _ from by rw [← hp4] at K7; exact HZ.below K7)
  have hT7 := (show TabW _ from by rw [← hp4] at K7; exact tabW_below hT2 K7)
  rw [hp4] at HZ7 hT7
  have s7 := World.block_lt_of_cell? _ _ P3.1.c0
  try simp only at s7
  clear k0 k1 k2 f0 f1 f2 HE6 x0 x1 x2 y0 y1 y2
  generalize ((v6.setCell ⟨P + 1, 0, none⟩ (.bool E.neg)).setCell ⟨P + 1, 1, none⟩ (.slice ae E.mag.length ce)).setCell ⟨P + 1, 2, none⟩ (.int .i64 E.exp) = V7 at *
  have q0 := P3.1.c0
  have q1 := P3.1.c1
  have q2 := P3.1.c2
  have z0 := HZ7.c0
  have z1 := HZ7.c1
  have z2 := HZ7.c2
  go_upto_region 30 with (go_at_call 55; refine (oA _ _ _ _ _ P3.1.row HZ7.row hT7).mono ?_; rintro e v8 ⟨ag, cg, rfl, rg, fg, b8⟩; have HE8 := P3.1.six P3.2 b8; have k0 := HE8.1.c0; have k1 := HE8.1.c1; have k2 := HE8.1.c2; obtain ⟨f0, f1, f2⟩ := HE8.2)
  have P4 := put3r (c := cg) (E := G) HE8.1 HE8.2 rg fg s7
  have B9 := ((((B7.trans (b8.mono (by omega)))).setCell (p := ⟨P + 1, 0, none⟩) (by simp; omega) (.bool G.neg)).setCell (p := ⟨P + 1, 1, none⟩) (by simp; omega) (.slice ag G.mag.length cg)).setCell (p := ⟨P + 1, 2, none⟩) (by simp; omega) (.int .i64 G.exp)
  have HT9 := HT0.below B9
  have B10 := HW.out _ (BV0.trans (B9.mono (by omega)))
  clear k0 k1 k2 f0 f1 f2 HE8 q0 q1 q2 z0 z1 z2
  generalize ((v8.setCell ⟨P + 1, 0, none⟩ (.bool G.neg)).setCell ⟨P + 1, 1, none⟩ (.slice ag G.mag.length cg)).setCell ⟨P + 1, 2, none⟩ (.int .i64 G.exp) = V9 at *
  have q0 := P4.1.c0
  have q1 := P4.1.c1
  have q2 := P4.1.c2
  have t0 := HT9.c0
  have t1 := HT9.c1
  have t2 := HT9.c2
  go_wp2_with (go_at_call 58; refine (oc _ _ _ _ _ P4.1.row HT9.row).mono ?_; rintro e va ⟨rfl, bb⟩)
  exact bodyPost_ret (v := .tuple #[.int .i64 (sgI (vI a * vI b + vI c * 2 ^ twP - vI t * 2 ^ twP)), .bool true]) (by simp [results, Tryd.results37, go_sem, sgI_wrap]) rfl ⟨rfl, bth3 B10 bb⟩
end Go.Proofs.YtalkdjgmblabgaaDoor
