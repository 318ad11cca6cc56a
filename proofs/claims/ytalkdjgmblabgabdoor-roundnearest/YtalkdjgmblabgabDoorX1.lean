/- What holds of layer 3's laws answers of finite floats: on which side of a float the exact answer lies. -/
import Derived.Test.YtalkdjgmblabgabDoorY9
import Derived.Test.YtalkdjgmblabgabDoorHa
import Derived.Test.YtalkdjgmblabgabDoorY7
namespace Go.Proofs.YtalkdjgmblabgabDoor
open Go.RowKit

/-- A right dyad of X units of 2^-2148. -/
def Fd (D : Dy) (X : Int) : Prop := rightB D = true ∧ Lm D.mag ∧ qd D = X * 2 ^ puH
theorem bl_sm {X : Int} {n : Nat} (h : X.natAbs < 2 ^ n) (hn : n ≤ 16384) : bl X.natAbs ≤ 16384 := by
  obtain ⟨G, hG⟩ : ∃ G : Nat, G = 16384 := ⟨_, rfl⟩
  rw [← hG] at hn ⊢
  exact bl_le_iff.2 (Nat.lt_of_lt_of_le h (pw_le hn))
theorem fd_of {a : Nat} (fa : finB a = true) : ∃ D, ofD a = (D, 0) ∧ Fd D (vI a * 2 ^ twP) := by
  obtain ⟨h1, h2, h3, h4⟩ := fq_qd fa (K := kV) rfl
  refine ⟨(ofD a).1, by rw [← h1], h2, h3, ?_⟩
  rw [h4, Int.mul_assoc, ← Int.pow_add, show twP + puH = kV from rfl]
theorem fd_dz {X : Int} (h : bl X.natAbs ≤ 16384) : Fd (dz X) X := dz_qd h rfl
theorem fd_add {D E : Dy} {X Y : Int} (h : Fd D X) (g : Fd E Y) (hb : bl (X + Y).natAbs ≤ 16384) : addD D E = (dz (X + Y), 0) := by
  unfold addD
  rw [h.1, g.1, h.2.2, g.2.2]
  simp only [Bool.and_self, if_true]
  rw [← Int.add_mul, shift_nrm, show (-65536 : Int) + (puH : Nat) = -2148 from rfl]
  exact dz_told hb
theorem fd_sub {D E : Dy} {X Y : Int} (h : Fd D X) (g : Fd E Y) (hb : bl (X - Y).natAbs ≤ 16384) : subD D E = (dz (X - Y), 0) := by
  unfold subD
  rw [h.1, g.1, h.2.2, g.2.2]
  simp only [Bool.and_self, if_true]
  rw [← Int.sub_mul, shift_nrm, show (-65536 : Int) + (puH : Nat) = -2148 from rfl]
  exact dz_told hb
theorem fd_mul {D E : Dy} {x y : Int} (h : Fd D (x * 2 ^ twP)) (g : Fd E (y * 2 ^ twP)) (hb : bl (x * y).natAbs ≤ 16384) : mulD D E = (dz (x * y), 0) := by
  unfold mulD
  rw [h.1, g.1, h.2.2, g.2.2]
  simp only [Bool.and_self, if_true]
  rw [show x * 2 ^ twP * 2 ^ puH * (y * 2 ^ twP * 2 ^ puH) = x * y * 2 ^ (kV + kV) by
    rw [Int.pow_add, show kV = twP + puH from rfl, Int.pow_add]
    generalize (2 : Int) ^ twP = P
    generalize (2 : Int) ^ puH = Q
    ac_rfl, shift_nrm, show (-131072 : Int) + ((kV + kV : Nat) : Int) = -2148 from rfl]
  exact dz_told hb
theorem fd_cmp {D E : Dy} {X Y : Int} (h : Fd D X) (g : Fd E Y) : sgI (qd D - qd E) = sgI (X - Y) := by
  rw [h.2.2, g.2.2, ← Int.sub_mul, sgI_pw]
theorem vI_bd {a : Nat} (fa : finB a = true) : ∃ V, V = 2098 ∧ (vI a).natAbs < 2 ^ V := by
  obtain ⟨V, hV⟩ : ∃ V : Nat, V = 2098 := ⟨_, rfl⟩
  exact ⟨V, hV, vI_lt fa hV⟩
/-- A box that may be written. -/
def Fzr (w : World) (p : Nat) : Prop := w.frozen? ⟨p, 0, none⟩ = false ∧ w.frozen? ⟨p, 1, none⟩ = false ∧ w.frozen? ⟨p, 2, none⟩ = false
theorem Fzr.below {w w1 : World} {p : Nat} (h : Fzr w p) (hp : p < w.heap.size) (hb : Below w.heap.size w w1) : Fzr w1 p := by
  obtain ⟨_, hf⟩ := oldc hb
  exact ⟨(hf _ _ hp).trans h.1, (hf _ _ hp).trans h.2.1, (hf _ _ hp).trans h.2.2⟩
theorem put3r {w : World} {p B : Nat} {a : Option Addr} {c : Nat} {D E : Dy} {ao : Option Addr} {cap : Nat} (h : Hd w p D ao cap) (hz : Fzr w p) (hr : LRow w a E.mag) (hf : Frs B a) (hp : p < B) :
    Hd (((w.setCell ⟨p, 0, none⟩ (.bool E.neg)).setCell ⟨p, 1, none⟩ (.slice a E.mag.length c)).setCell ⟨p, 2, none⟩ (.int .i64 E.exp)) p E a c ∧ Fzr (((w.setCell ⟨p, 0, none⟩ (.bool E.neg)).setCell ⟨p, 1, none⟩ (.slice a E.mag.length c)).setCell ⟨p, 2, none⟩ (.int .i64 E.exp)) p := by
  have s0 : (w.setCell ⟨p, 0, none⟩ (.bool E.neg)).cell? ⟨p, 0, none⟩ = some (.bool E.neg) := World.cell?_setCell_same w _ _ h.c0
  have s1 : (w.setCell ⟨p, 0, none⟩ (.bool E.neg)).cell? ⟨p, 1, none⟩ = some (.slice ao D.mag.length cap) := (World.cell?_setCell_other w _ _ _ (by simp)).trans h.c1
  have s2 : (w.setCell ⟨p, 0, none⟩ (.bool E.neg)).cell? ⟨p, 2, none⟩ = some (.int .i64 D.exp) := (World.cell?_setCell_other w _ _ _ (by simp)).trans h.c2
  have t0 := (World.cell?_setCell_other _ ⟨p, 1, none⟩ ⟨p, 0, none⟩ (.slice a E.mag.length c) (by simp)).trans s0
  have t1 := World.cell?_setCell_same _ _ (.slice a E.mag.length c) s1
  have t2 := (World.cell?_setCell_other _ ⟨p, 1, none⟩ ⟨p, 2, none⟩ (.slice a E.mag.length c) (by simp)).trans s2
  refine ⟨⟨(World.cell?_setCell_other _ _ _ _ (by simp)).trans t0, (World.cell?_setCell_other _ _ _ _ (by simp)).trans t1, World.cell?_setCell_same _ _ _ t2, ((hr.box hf hp _ _).box hf hp _ _).box hf hp _ _⟩, ?_⟩
  obtain ⟨f0, f1, f2⟩ := hz
  refine ⟨?_, ?_, ?_⟩ <;> simp [go_sem, f0, f1, f2]
end Go.Proofs.YtalkdjgmblabgabDoor

namespace Go.Proofs.YtalkdjgmblabgabDoor
open Go.RowKit

theorem bth3 {w W W' : World} (h : Below w.heap.size w W) (b : Below W.heap.size W W') : Below w.heap.size w W' := h.trans (b.mono h.size)
theorem bal (w : World) (o : Obj) : Below w.heap.size w (w.alloc o) := (Below.refl _ _).alloc (Nat.le_refl _) _
/-- Nine cells of three new boxes turned. -/
abbrev nineW (W : World) (n : Nat) (a b c d e f g h i : Value) : World := (((((((((W.setCell ⟨n, 0, none⟩ a).setCell ⟨n, 1, none⟩ b).setCell ⟨n, 2, none⟩ c).setCell ⟨n + 1, 0, none⟩ d).setCell ⟨n + 1, 1, none⟩ e).setCell ⟨n + 1, 2, none⟩ f).setCell ⟨n + 1 + 1, 0, none⟩ g).setCell ⟨n + 1 + 1, 1, none⟩ h).setCell ⟨n + 1 + 1, 2, none⟩ i).drew
theorem nine {W : World} {n : Nat} {o : Option Addr} {m : List Nat} (h : LRow W o m) (hf : Frs (n + 3) o) (a b c d e f g h' i : Value) : LRow (nineW W n a b c d e f g h' i) o m :=
  (((((((((h.box hf (by omega) _ _).box hf (by omega) _ _).box hf (by omega) _ _).box hf (by omega) _ _).box hf (by omega) _ _).box hf (by omega) _ _).box hf (by omega) _ _).box hf (by omega) _ _).box hf (by omega) _ _).drew
theorem nineB {w W : World} (hB : Below w.heap.size w W) (a b c d e f g h i : Value) : Below w.heap.size w (nineW W w.heap.size a b c d e f g h i) := by
  have k0 : w.heap.size ≤ w.heap.size := Nat.le_refl _
  have k1 : w.heap.size ≤ w.heap.size + 1 := by omega
  have k2 : w.heap.size ≤ w.heap.size + 1 + 1 := by omega
  exact (((((((((hB.setCell k0 _).setCell k0 _).setCell k0 _).setCell k1 _).setCell k1 _).setCell k1 _).setCell k2 _).setCell k2 _).setCell k2 _).drew
/-- Three new boxes of nothing. -/
theorem zero_three (w : World) : let o := Obj.cells #[.bool false, .slice none 0 0, .int .i64 0] 32
    let w0 := ((w.alloc o).alloc o).alloc o
    (Hd w0 w.heap.size dy0 none 0 ∧ Fzr w0 w.heap.size) ∧ (Hd w0 (w.heap.size + 1) dy0 none 0 ∧ Fzr w0 (w.heap.size + 1)) ∧ (Hd w0 (w.heap.size + 1 + 1) dy0 none 0 ∧ Fzr w0 (w.heap.size + 1 + 1)) := by
  refine ⟨⟨⟨?_, ?_, ?_, Or.inl rfl⟩, ?_, ?_, ?_⟩, ⟨⟨?_, ?_, ?_, Or.inl rfl⟩, ?_, ?_, ?_⟩, ⟨⟨?_, ?_, ?_, Or.inl rfl⟩, ?_, ?_, ?_⟩⟩
  all_goals first
    | (show _ = some (Value.bool false); go_simp)
    | (show _ = some (Value.slice none 0 0); go_simp)
    | (show _ = some (Value.int .i64 0); go_simp)
    | go_simp
set_option maxRecDepth 100000 in
set_option maxHeartbeats 2000000 in
theorem dyads_any (a b c : Nat) (X Y Z : Dy) (ha : a < 18446744073709551616) (hb : b < 18446744073709551616) (hc : c < 18446744073709551616) (eX : ofD a = (X, 0)) (eY : ofD b = (Y, 0)) (eZ : ofD c = (Z, 0)) (w : World) (hT : TabW w) :
    Calls Tryd.prog 10 #[.float .f64 a, .float .f64 b, .float .f64 c] w fun e w' => ∃ ao ac bo bc co cc, e = .returned (.tuple #[.agg #[.bool X.neg, .slice ao X.mag.length ac, .int .i64 X.exp], .agg #[.bool Y.neg, .slice bo Y.mag.length bc, .int .i64 Y.exp], .agg #[.bool Z.neg, .slice co Z.mag.length cc, .int .i64 Z.exp], .bool true]) ∧ LRow w' ao X.mag ∧ LRow w' bo Y.mag ∧ LRow w' co Z.mag ∧ Below w.heap.size w w' := by
  have ox := fun w h => Of_any a ha w h
  have oy := fun w h => Of_any b hb w h
  have oz := fun w h => Of_any c hc w h
  rw [eX] at ox
  rw [eY] at oy
  rw [eZ] at oz
  clear eX eY eZ
  obtain ⟨xn, xm, xe⟩ := X
  obtain ⟨yn, ym, ye⟩ := Y
  obtain ⟨zn, zm, ze⟩ := Z
  have hT3 : ∀ o p q, TabW (((w.alloc o).alloc p).alloc q) := fun o p q => tabW_alloc (tabW_alloc (tabW_alloc hT o) p) q
  go_enter Tryd.func10, Tryd.ntmps10
  go_upto_region 4 with (first
    | (go_at_call_of 31 (Value.float FloatKind.f64 a); refine (ox _ (hT3 _ _ _)).mono ?_; rintro e w1 ⟨ax, cx, rfl, r1, f1, b1⟩; have hT1 := tabW_below (hT3 _ _ _) b1)
    | (go_at_call_of 31 (Value.float FloatKind.f64 b); refine (oy _ (tabW_alloc hT1 _)).mono ?_; rintro e w2 ⟨ay, cy, rfl, r2, f2, b2⟩; have hT2 := tabW_below (tabW_alloc hT1 _) b2)
    | (go_at_call_of 31 (Value.float FloatKind.f64 c); refine (oz _ (tabW_alloc hT2 _)).mono ?_; rintro e w3 ⟨az, cz, rfl, r3, f3, b3⟩))
  obtain ⟨o, ho⟩ : ∃ o, Obj.cells #[.bool false, .slice none 0 0, .int .i64 0] 32 = o := ⟨_, rfl⟩
  obtain ⟨Z0, Z1, Z2⟩ := zero_three w
  rw [ho] at Z0 Z1 Z2
  rw [ho] at f1 b1
  have B0 : Below w.heap.size w (((w.alloc o).alloc o).alloc o) := bth3 (bth3 (bal w o) (bal _ o)) (bal _ o)
  have s0 : (((w.alloc o).alloc o).alloc o).heap.size = w.heap.size + 3 := by simp
  generalize ((w.alloc o).alloc o).alloc o = w0 at *
  have HX := ((Hd.new (d := ⟨xn, xm, xe⟩) (cap := cx) r1).below b2)
  have HX := (HX.below (bal _ _)).below b3
  have HX := HX.below (bal _ (Obj.cells #[.bool zn, .slice az zm.length cz, .int .i64 ze] 32))
  have HY := (Hd.new (d := ⟨yn, ym, ye⟩) (cap := cy) r2).below b3
  have HY := HY.below (bal _ (Obj.cells #[.bool zn, .slice az zm.length cz, .int .i64 ze] 32))
  have HZ := Hd.new (d := ⟨zn, zm, ze⟩) (cap := cz) r3
  have K1 := bth3 (bth3 b1 (bal _ (Obj.cells #[.bool xn, .slice ax xm.length cx, .int .i64 xe] 32))) b2
  have K2 := bth3 (bth3 K1 (bal _ (Obj.cells #[.bool yn, .slice ay ym.length cy, .int .i64 ye] 32))) b3
  have K3 := bth3 K2 (bal _ (Obj.cells #[.bool zn, .slice az zm.length cz, .int .i64 ze] 32))
  have F1 : Frs (w.heap.size + 3) ax := by rw [← s0]; exact f1
  have F2 : Frs (w.heap.size + 3) ay := f2.mono (by have := b1.size; simp; omega)
  have F3 : Frs (w.heap.size + 3) az := f3.mono (by have := K1.size; simp; omega)
  have E0 := (oldc K3).1
  have E1 := (oldc K3).2
  have p1 : w.heap.size + 3 ≤ w1.heap.size := by have := b1.size; omega
  have p2 : w1.heap.size + 1 ≤ w2.heap.size := by have := b2.size; simpa using this
  have p3 : w2.heap.size + 1 ≤ w3.heap.size := by have := b3.size; simpa using this
  have q0 : w.heap.size < w0.heap.size := by omega
  have q1 : w.heap.size + 1 < w0.heap.size := by omega
  have q2 : w.heap.size + 1 + 1 < w0.heap.size := by omega
  have Z0 := And.intro (Z0.1.below K3) (Z0.2.below q0 K3)
  have Z1 := And.intro (Z1.1.below K3) (Z1.2.below q1 K3)
  have Z2 := And.intro (Z2.1.below K3) (Z2.2.below q2 K3)
  have BW := bth3 B0 K3
  clear hT hT1 hT2 hT3 ox oy oz f1 f2 f3 b1 b2 b3 r1 r2 r3 K1 K2 K3 E0 E1 B0
  generalize hn1 : w1.heap.size = n1 at *
  generalize hn2 : w2.heap.size = n2 at *
  generalize hn3 : w3.heap.size = n3 at *
  generalize w3.alloc (Obj.cells #[.bool zn, .slice az zm.length cz, .int .i64 ze] 32) = W at *
  clear hn1 hn2 hn3
  obtain ⟨x0, x1, x2, xr⟩ := HX
  obtain ⟨y0, y1, y2, yr⟩ := HY
  obtain ⟨z0, z1, z2, zr⟩ := HZ
  obtain ⟨⟨d0, d1, d2, _⟩, g0, g1, g2⟩ := Z0
  obtain ⟨⟨d3, d4, d5, _⟩, g3, g4, g5⟩ := Z1
  obtain ⟨⟨d6, d7, d8, _⟩, g6, g7, g8⟩ := Z2
  dsimp only at *
  have v1 : ¬ n1 = w.heap.size := by omega
  have v2 : ¬ n1 = w.heap.size + 1 := by omega
  have v3 : ¬ n1 = w.heap.size + 1 + 1 := by omega
  have v4 : ¬ n2 = w.heap.size := by omega
  have v5 : ¬ n2 = w.heap.size + 1 := by omega
  have v6 : ¬ n2 = w.heap.size + 1 + 1 := by omega
  have v7 : ¬ n3 = w.heap.size := by omega
  have v8 : ¬ n3 = w.heap.size + 1 := by omega
  have v9 : ¬ n3 = w.heap.size + 1 + 1 := by omega
  have u1 : ¬ w.heap.size = n1 := by omega
  have u2 : ¬ w.heap.size + 1 = n1 := by omega
  have u3 : ¬ w.heap.size + 1 + 1 = n1 := by omega
  have u4 : ¬ w.heap.size = n2 := by omega
  have u5 : ¬ w.heap.size + 1 = n2 := by omega
  have u6 : ¬ w.heap.size + 1 + 1 = n2 := by omega
  have u7 : ¬ w.heap.size = n3 := by omega
  have u8 : ¬ w.heap.size + 1 = n3 := by omega
  have u9 : ¬ w.heap.size + 1 + 1 = n3 := by omega
  go_region_held3 (fun w' => w'.cell? ⟨n1, 0, none⟩ = some (.bool xn) ∧ w'.cell? ⟨n1, 1, none⟩ = some (.slice ax xm.length cx) ∧ w'.cell? ⟨n1, 2, none⟩ = some (.int .i64 xe) ∧ w'.cell? ⟨n2, 0, none⟩ = some (.bool yn) ∧ w'.cell? ⟨n2, 1, none⟩ = some (.slice ay ym.length cy) ∧ w'.cell? ⟨n2, 2, none⟩ = some (.int .i64 ye) ∧ w'.cell? ⟨n3, 0, none⟩ = some (.bool zn) ∧ w'.cell? ⟨n3, 1, none⟩ = some (.slice az zm.length cz) ∧ w'.cell? ⟨n3, 2, none⟩ = some (.int .i64 ze)) (go_keep) (fail)
  go_wp2
  refine bodyPost_ret (v := .tuple #[.agg #[.bool xn, .slice ax xm.length cx, .int .i64 xe], .agg #[.bool yn, .slice ay ym.length cy, .int .i64 ye], .agg #[.bool zn, .slice az zm.length cz, .int .i64 ze], .bool true]) (by simp [results, Tryd.results10, go_sem, d0, d1, d2, d3, d4, d5, d6, d7, d8]) rfl ⟨ax, cx, ay, cy, az, cz, rfl, nine xr F1 _ _ _ _ _ _ _ _ _, nine yr F2 _ _ _ _ _ _ _ _ _, nine zr F3 _ _ _ _ _ _ _ _ _, nineB BW _ _ _ _ _ _ _ _ _⟩
end Go.Proofs.YtalkdjgmblabgabDoor

namespace Go.Proofs.YtalkdjgmblabgabDoor
open Go.RowKit

/-- Turned, where s says so. -/
def tnI (s : Bool) (x : Int) : Int := if s then -x else x
/-- Cells and marks of a box of three, behind a call. -/
theorem Hd.six {w w1 : World} {p : Nat} {d : Dy} {ao : Option Addr} {cap : Nat} (h : Hd w p d ao cap) (hz : Fzr w p) (hb : Below w.heap.size w w1) : Hd w1 p d ao cap ∧ Fzr w1 p := ⟨h.below hb, hz.below (World.block_lt_of_cell? w _ h.c0) hb⟩
theorem fz_new (w : World) (a b c : Value) : Fzr (w.alloc (.cells #[a, b, c] 32)) w.heap.size := ⟨by go_simp, by go_simp, by go_simp⟩
theorem not_neg {x : Nat} (hx : x < 18446744073709551616) (fx : finB x = true) (h : sgn x = false ∨ rung x = 0) : (FloatKind.f64.format.order x 0 == some .lt) = false := by
  have hr := fin_rung fx
  have nb : nanB x = false := rung_nan (by omega)
  rw [zero_lt hx, nb]
  unfold place
  rcases h with h | h
  · rw [h]; simp
  · rw [h]; cases sgn x <;> simp
theorem sgI_wrap (x : Int) : wrap64 (sgI x) = sgI x := by
  obtain ⟨h1, h2⟩ := sgI_bd x
  generalize sgI x = y at *
  unfold wrap64
  omega
theorem sgI_wrapn (x : Int) : wrap64 (-sgI x) = -sgI x := by
  obtain ⟨h1, h2⟩ := sgI_bd x
  generalize sgI x = y at *
  unfold wrap64
  omega
theorem put3n {w : World} {p : Nat} {a : Option Addr} {c : Nat} {D E : Dy} {ao : Option Addr} {cap : Nat} (h : Hd w p D ao cap) (hr : LRow w a E.mag) (hf : ∀ b off, a = some ⟨b, off, none⟩ → E.mag.length ≠ 0 → b ≠ p) :
    Hd (((w.setCell ⟨p, 0, none⟩ (.bool E.neg)).setCell ⟨p, 1, none⟩ (.slice a E.mag.length c)).setCell ⟨p, 2, none⟩ (.int .i64 E.exp)) p E a c := by
  have s0 : (w.setCell ⟨p, 0, none⟩ (.bool E.neg)).cell? ⟨p, 0, none⟩ = some (.bool E.neg) := World.cell?_setCell_same w _ _ h.c0
  have s1 : (w.setCell ⟨p, 0, none⟩ (.bool E.neg)).cell? ⟨p, 1, none⟩ = some (.slice ao D.mag.length cap) := (World.cell?_setCell_other w _ _ _ (by simp)).trans h.c1
  have s2 : (w.setCell ⟨p, 0, none⟩ (.bool E.neg)).cell? ⟨p, 2, none⟩ = some (.int .i64 D.exp) := (World.cell?_setCell_other w _ _ _ (by simp)).trans h.c2
  have t0 := (World.cell?_setCell_other _ ⟨p, 1, none⟩ ⟨p, 0, none⟩ (.slice a E.mag.length c) (by simp)).trans s0
  have t1 := World.cell?_setCell_same _ _ (.slice a E.mag.length c) s1
  have t2 := (World.cell?_setCell_other _ ⟨p, 1, none⟩ ⟨p, 2, none⟩ (.slice a E.mag.length c) (by simp)).trans s2
  exact ⟨(World.cell?_setCell_other _ _ _ _ (by simp)).trans t0, (World.cell?_setCell_other _ _ _ _ (by simp)).trans t1, World.cell?_setCell_same _ _ _ t2, ((hr.setCell _ hf).setCell _ hf).setCell _ hf⟩
theorem row_lt {w : World} {o : Option Addr} {m : List Nat} (h : LRow w o m) : ∀ b off, o = some ⟨b, off, none⟩ → m.length ≠ 0 → b < w.heap.size := fun b off e h0 => by
  rcases h with h | ⟨b', off', e', hc⟩
  · exact absurd h h0
  · rw [e] at e'
    cases e'
    exact World.block_lt_of_cell? w _ (hc 0 (by omega))
/-- A box behind three stores into another. -/
theorem Hd.oth {w : World} {p q : Nat} {d : Dy} {ao : Option Addr} {cap : Nat} (h : Hd w p d ao cap) (hne : p ≠ q) (v0 v1 v2 : Value) (hr : LRow (((w.setCell ⟨q, 0, none⟩ v0).setCell ⟨q, 1, none⟩ v1).setCell ⟨q, 2, none⟩ v2) ao d.mag) : Hd (((w.setCell ⟨q, 0, none⟩ v0).setCell ⟨q, 1, none⟩ v1).setCell ⟨q, 2, none⟩ v2) p d ao cap := by
  have hadd : ∀ i j : Nat, (⟨q, j, none⟩ : Addr) ≠ ⟨p, i, none⟩ := fun i j e => hne (by injection e with e1; exact e1.symm)
  have k : ∀ (i : Nat) (x : Value), w.cell? ⟨p, i, none⟩ = some x → (((w.setCell ⟨q, 0, none⟩ v0).setCell ⟨q, 1, none⟩ v1).setCell ⟨q, 2, none⟩ v2).cell? ⟨p, i, none⟩ = some x := fun i x hx => by
    rw [World.cell?_setCell_other _ _ _ _ (hadd i 2), World.cell?_setCell_other _ _ _ _ (hadd i 1), World.cell?_setCell_other _ _ _ _ (hadd i 0)]
    exact hx
  exact ⟨k _ _ h.c0, k _ _ h.c1, k _ _ h.c2, hr⟩
theorem Fzr.set {w : World} {p : Nat} (h : Fzr w p) (q : Nat) (v0 v1 v2 : Value) : Fzr (((w.setCell ⟨q, 0, none⟩ v0).setCell ⟨q, 1, none⟩ v1).setCell ⟨q, 2, none⟩ v2) p := by
  obtain ⟨h0, h1, h2⟩ := h
  exact ⟨by go_simp, by go_simp, by go_simp⟩
theorem three_box3 {w : World} {X Y Z : Dy} {ax ay az : Option Addr} {cx cy cz : Nat} (rx : LRow w ax X.mag) (ry : LRow w ay Y.mag) (rz : LRow w az Z.mag) :
    let W := ((w.alloc (.cells #[.bool X.neg, .slice ax X.mag.length cx, .int .i64 X.exp] 32)).alloc (.cells #[.bool Y.neg, .slice ay Y.mag.length cy, .int .i64 Y.exp] 32)).alloc (.cells #[.bool Z.neg, .slice az Z.mag.length cz, .int .i64 Z.exp] 32)
    Hd W w.heap.size X ax cx ∧ Hd W (w.heap.size + 1) Y ay cy ∧ Hd W (w.heap.size + 1 + 1) Z az cz ∧ W.heap.size = w.heap.size + 3 ∧ Below w.heap.size w W := by
  have h1 := ((Hd.new (d := X) (cap := cx) rx).below (bal _ (.cells #[.bool Y.neg, .slice ay Y.mag.length cy, .int .i64 Y.exp] 32))).below (bal _ (.cells #[.bool Z.neg, .slice az Z.mag.length cz, .int .i64 Z.exp] 32))
  have h2 := (Hd.new (d := Y) (cap := cy) (ry.alloc (.cells #[.bool X.neg, .slice ax X.mag.length cx, .int .i64 X.exp] 32))).below (bal _ (.cells #[.bool Z.neg, .slice az Z.mag.length cz, .int .i64 Z.exp] 32))
  have h3 := Hd.new (d := Z) (cap := cz) ((rz.alloc (.cells #[.bool X.neg, .slice ax X.mag.length cx, .int .i64 X.exp] 32)).alloc (.cells #[.bool Y.neg, .slice ay Y.mag.length cy, .int .i64 Y.exp] 32))
  refine ⟨h1, ?_, ?_, by simp, bth3 (bth3 (bal _ _) (bal _ _)) (bal _ _)⟩
  · simpa using h2
  · simpa using h3
end Go.Proofs.YtalkdjgmblabgabDoor
