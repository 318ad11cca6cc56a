/- What the statements' own 'made' answers: three right dyads. -/
import Derived.Test.YtjdhadpfhnmkhaaDoorHa
namespace Go.Proofs.YtjdhadpfhnmkhaaDoor
open Go.RowKit

abbrev dyO (d : Dy) (ao : Option Addr) (cap : Nat) : Obj := .cells #[.bool d.neg, .slice ao d.mag.length cap, .int .i64 d.exp] 24
abbrev zO : Obj := (.cells #[.bool false, .slice none 0 0, .int .i64 0] 24)
abbrev w6 (w : World) (a b c : Dy) (ao bo co : Option Addr) (ac bc cc : Nat) : World := (((((w.alloc (dyO a ao ac)).alloc (dyO b bo bc)).alloc (dyO c co cc)).alloc zO).alloc zO).alloc zO
theorem w6_old (w : World) (a b c : Dy) (ao bo co : Option Addr) (ac bc cc : Nat) : Below w.heap.size w (w6 w a b c ao bo co ac bc cc) := by
  refine ((((((Below.refl _ _).alloc (Nat.le_refl _) _).alloc ?_ _).alloc ?_ _).alloc ?_ _).alloc ?_ _).alloc ?_ _ <;> (go_simp; try omega)
theorem w6_hd {w wx : World} {a b c : Dy} {ao bo co : Option Addr} {ac bc cc : Nat} (hb : Below (w6 w a b c ao bo co ac bc cc).heap.size (w6 w a b c ao bo co ac bc cc) wx) (ha : LRow w ao a.mag) (hb' : LRow w bo b.mag) (hc : LRow w co c.mag) :
    Hd wx w.heap.size a ao ac ∧ Hd wx (w.heap.size + 1) b bo bc ∧ Hd wx (w.heap.size + 1 + 1) c co cc := by
  have h := (w6_old w a b c ao bo co ac bc cc).trans (hb.mono (w6_old w a b c ao bo co ac bc cc).size)
  refine ⟨Hd.below ⟨?_, ?_, ?_, ?_⟩ hb, Hd.below ⟨?_, ?_, ?_, ?_⟩ hb, Hd.below ⟨?_, ?_, ?_, ?_⟩ hb⟩
  · go_simp
  · go_simp
  · go_simp
  · exact ha.below (w6_old ..)
  · go_simp
  · go_simp
  · go_simp
  · exact hb'.below (w6_old ..)
  · go_simp
  · go_simp
  · go_simp
  · exact hc.below (w6_old ..)
theorem w6_out {w wx : World} {a b c : Dy} {ao bo co : Option Addr} {ac bc cc : Nat} (hb : Below (w6 w a b c ao bo co ac bc cc).heap.size (w6 w a b c ao bo co ac bc cc) wx) (k : Nat) (hk : k = w.heap.size + 1 + 1 + 1 ∨ k = w.heap.size + 1 + 1 + 1 + 1 ∨ k = w.heap.size + 1 + 1 + 1 + 1 + 1) :
    (wx.cell? ⟨k, 0, none⟩ = some (.bool false) ∧ wx.cell? ⟨k, 1, none⟩ = some (.slice none 0 0) ∧ wx.cell? ⟨k, 2, none⟩ = some (.int .i64 0)) ∧ wx.frozen? ⟨k, 0, none⟩ = false ∧ wx.frozen? ⟨k, 1, none⟩ = false ∧ wx.frozen? ⟨k, 2, none⟩ = false := by
  have hc : (w6 w a b c ao bo co ac bc cc).cell? ⟨k, 0, none⟩ = some (.bool false) ∧ (w6 w a b c ao bo co ac bc cc).cell? ⟨k, 1, none⟩ = some (.slice none 0 0) ∧ (w6 w a b c ao bo co ac bc cc).cell? ⟨k, 2, none⟩ = some (.int .i64 0) := by
    rcases hk with rfl | rfl | rfl <;> refine ⟨?_, ?_, ?_⟩ <;> go_simp
  have hm : (w6 w a b c ao bo co ac bc cc).frozen? ⟨k, 0, none⟩ = false ∧ (w6 w a b c ao bo co ac bc cc).frozen? ⟨k, 1, none⟩ = false ∧ (w6 w a b c ao bo co ac bc cc).frozen? ⟨k, 2, none⟩ = false := by
    rcases hk with rfl | rfl | rfl <;> refine ⟨?_, ?_, ?_⟩ <;> go_simp
  exact ⟨three_on hb hc, marks_on hb hc.1 hm⟩

/-- Three dyads handed back. -/
def Gave3 (w : World) (x y z : Dy) (ok : Bool) (e : Ending) (w' : World) : Prop :=
  ∃ xo yo zo xc yc zc, e = .returned (.tuple #[.agg #[.bool x.neg, .slice xo x.mag.length xc, .int .i64 x.exp], .agg #[.bool y.neg, .slice yo y.mag.length yc, .int .i64 y.exp], .agg #[.bool z.neg, .slice zo z.mag.length zc, .int .i64 z.exp], .bool ok]) ∧ LRow w' xo x.mag ∧ LRow w' yo y.mag ∧ LRow w' zo z.mag ∧ Below w.heap.size w w'

/-- The world at the end of 'made'. -/
theorem made_end {w wq : World} {x y z : Dy} {ox oy oz : Option Addr} {cx cy cz : Nat} (hB : Below w.heap.size w wq) (fx : Frs (w.heap.size + 1 + 1 + 1 + 1 + 1 + 1) ox) (fy : Frs (w.heap.size + 1 + 1 + 1 + 1 + 1 + 1) oy) (fz : Frs (w.heap.size + 1 + 1 + 1 + 1 + 1 + 1) oz) (xr : LRow wq ox x.mag) (yr : LRow wq oy y.mag) (zr : LRow wq oz z.mag) (v0 v1 v2 v3 v4 v5 v6 v7 v8 : Value) (ok : Bool) :
    Gave3 w x y z ok (.returned (.tuple #[.agg #[.bool x.neg, .slice ox x.mag.length cx, .int .i64 x.exp], .agg #[.bool y.neg, .slice oy y.mag.length cy, .int .i64 y.exp], .agg #[.bool z.neg, .slice oz z.mag.length cz, .int .i64 z.exp], .bool ok])) (((((((((wq.setCell ⟨w.heap.size + 1 + 1 + 1, 0, none⟩ v0).setCell ⟨w.heap.size + 1 + 1 + 1, 1, none⟩ v1).setCell ⟨w.heap.size + 1 + 1 + 1, 2, none⟩ v2).setCell ⟨w.heap.size + 1 + 1 + 1 + 1, 0, none⟩ v3).setCell ⟨w.heap.size + 1 + 1 + 1 + 1, 1, none⟩ v4).setCell ⟨w.heap.size + 1 + 1 + 1 + 1, 2, none⟩ v5).setCell ⟨w.heap.size + 1 + 1 + 1 + 1 + 1, 0, none⟩ v6).setCell ⟨w.heap.size + 1 + 1 + 1 + 1 + 1, 1, none⟩ v7).setCell ⟨w.heap.size + 1 + 1 + 1 + 1 + 1, 2, none⟩ v8).drew := by
  have g : ∀ (o : Option Addr) (l : List Nat), Frs (w.heap.size + 1 + 1 + 1 + 1 + 1 + 1) o → LRow wq o l → LRow (((((((((wq.setCell ⟨w.heap.size + 1 + 1 + 1, 0, none⟩ v0).setCell ⟨w.heap.size + 1 + 1 + 1, 1, none⟩ v1).setCell ⟨w.heap.size + 1 + 1 + 1, 2, none⟩ v2).setCell ⟨w.heap.size + 1 + 1 + 1 + 1, 0, none⟩ v3).setCell ⟨w.heap.size + 1 + 1 + 1 + 1, 1, none⟩ v4).setCell ⟨w.heap.size + 1 + 1 + 1 + 1, 2, none⟩ v5).setCell ⟨w.heap.size + 1 + 1 + 1 + 1 + 1, 0, none⟩ v6).setCell ⟨w.heap.size + 1 + 1 + 1 + 1 + 1, 1, none⟩ v7).setCell ⟨w.heap.size + 1 + 1 + 1 + 1 + 1, 2, none⟩ v8).drew o l := fun o l f h =>
    ((((((((((h.box f (by omega) _ _).box f (by omega) _ _).box f (by omega) _ _).box f (by omega) _ _).box f (by omega) _ _).box f (by omega) _ _).box f (by omega) _ _).box f (by omega) _ _).box f (by omega) _ _)).drew
  refine ⟨ox, oy, oz, cx, cy, cz, rfl, g _ _ fx xr, g _ _ fy yr, g _ _ fz zr, ?_⟩
  exact (((((((((hB.setCell (by simp; omega) _).setCell (by simp; omega) _).setCell (by simp; omega) _).setCell (by simp; omega) _).setCell (by simp; omega) _).setCell (by simp; omega) _).setCell (by simp; omega) _).setCell (by simp; omega) _).setCell (by simp; omega) _).drew

set_option maxHeartbeats 2000000 in
set_option maxRecDepth 100000 in
theorem made_walk (a b c x y z : Dy) (k1 k2 k3 : Int) (ao bo co : Option Addr) (ac bc cc : Nat) (w : World) (ra : LRow w ao a.mag) (rb : LRow w bo b.mag) (rc : LRow w co c.mag) (la : Lm a.mag) (lb : Lm b.mag) (lc : Lm c.mag)
    (sa : ao = none → ac = 0 ∧ a.mag.length = 0) (sb : bo = none → bc = 0 ∧ b.mag.length = 0) (sc : co = none → cc = 0 ∧ c.mag.length = 0) (na : a.mag.length ≤ 17592186044416) (nb : b.mag.length ≤ 17592186044416) (nc : c.mag.length ≤ 17592186044416) (hT : TabW w)
    (hx : normD a = (x, k1)) (hy : normD b = (y, k2)) (hz : normD c = (z, k3)) (ok : Bool) (hok : ((k1 == 0) && ((k2 == 0) && (k3 == 0))) = ok) :
    Calls Tryd.prog 8 #[.agg #[.bool a.neg, .slice ao a.mag.length ac, .int .i64 a.exp], .agg #[.bool b.neg, .slice bo b.mag.length bc, .int .i64 b.exp], .agg #[.bool c.neg, .slice co c.mag.length cc, .int .i64 c.exp]] w (Gave3 w x y z ok) := by
  have hnx := fun o' c' w' hr' hT' => norm_any a o' c' w' hr' la hT' (by omega)
  have hny := fun o' c' w' hr' hT' => norm_any b o' c' w' hr' lb hT' (by omega)
  have hnz := fun o' c' w' hr' hT' => norm_any c o' c' w' hr' lc hT' (by omega)
  rw [hx] at hnx
  rw [hy] at hny
  rw [hz] at hnz
  have hcx := fun w' hr' => copyDyad_any a ao ac w' hr' sa na
  have hcy := fun w' hr' => copyDyad_any b bo bc w' hr' sb nb
  have hcz := fun w' hr' => copyDyad_any c co cc w' hr' sc nc
  clear hx hy hz sa sb sc
  have hw6 := w6_old w a b c ao bo co ac bc cc
  go_enter Tryd.func8, Tryd.ntmps8
  go_upto_region 1 with fail
  go_cut [16, 17, 18, 19, 20, 21, 10, 11] (fun _ _ _ _ _ _ s1 s2 wx => ∃ P o' c', s1 = .pointer (some ⟨P, 0, none⟩) ∧ s2 = .int .i64 k1 ∧ w.heap.size + 1 + 1 + 1 + 1 + 1 + 1 ≤ P ∧ Frs (w.heap.size + 1 + 1 + 1 + 1 + 1 + 1) o' ∧ Hd wx P x o' c' ∧ Below (w6 w a b c ao bo co ac bc cc).heap.size (w6 w a b c ao bo co ac bc cc) wx)
  case first =>
    have hBq := Below.refl (w6 w a b c ao bo co ac bc cc).heap.size (w6 w a b c ao bo co ac bc cc)
    obtain ⟨ga, gb, gc⟩ := w6_hd hBq ra rb rc
    obtain ⟨g0, g1, g2, grow⟩ := ga
    have hTq := tabW_below hT (hw6.trans (hBq.mono hw6.size))
    go_wp2_with (first | (go_at_call 23; refine (hcx _ grow).mono ?_; rintro e w1 ⟨co', cc', rfl, hrc', _, hbc⟩) | (go_at_call 22; refine (hnx co' cc' _ hrc' (tabW_below hTq hbc)).mono ?_; rintro e w2 ⟨xo, xc, rfl, hrx, hfx, hbx⟩))
    go_meet
    have hB' := hbc.trans (hbx.mono hbc.size)
    have hB'' := hB'.alloc hB'.size (dyO x xo xc)
    have hsz : w.heap.size + 1 + 1 + 1 + 1 + 1 + 1 ≤ w2.heap.size := by have h := (hBq.trans (hB'.mono hBq.size)).size; simpa [w6] using h
    have hsf : w.heap.size + 1 + 1 + 1 + 1 + 1 + 1 ≤ w1.heap.size := by have h := (hBq.trans (hbc.mono hBq.size)).size; simpa [w6] using h
    exact ⟨_, xo, xc, rfl, rfl, hsz, hfx.mono hsf, Hd.new hrx, hBq.trans (hB''.mono hBq.size)⟩
  obtain ⟨Px, ox, cx, rfl, rfl, gx, fx, Hx, hB1⟩ := hcut
  obtain ⟨wq1, hwq⟩ : ∃ wq, wq = wc := ⟨_, rfl⟩
  subst hwq
  go_upto_region 2 with fail
  go_cut [22, 23, 24, 25, 26, 27, 12, 13] (fun _ _ _ _ _ _ s1 s2 wx => ∃ P o' c', s1 = .pointer (some ⟨P, 0, none⟩) ∧ s2 = .int .i64 k2 ∧ w.heap.size + 1 + 1 + 1 + 1 + 1 + 1 ≤ P ∧ Frs (w.heap.size + 1 + 1 + 1 + 1 + 1 + 1) o' ∧ Hd wx P y o' c' ∧ Hd wx Px x ox cx ∧ Below (w6 w a b c ao bo co ac bc cc).heap.size (w6 w a b c ao bo co ac bc cc) wx)
  case first =>
    have hBq := hB1
    obtain ⟨ga, gb, gc⟩ := w6_hd hBq ra rb rc
    obtain ⟨g0, g1, g2, grow⟩ := gb
    have hTq := tabW_below hT (hw6.trans (hBq.mono hw6.size))
    go_wp2_with (first | (go_at_call 23; refine (hcy _ grow).mono ?_; rintro e w1 ⟨co', cc', rfl, hrc', _, hbc⟩) | (go_at_call 22; refine (hny co' cc' _ hrc' (tabW_below hTq hbc)).mono ?_; rintro e w2 ⟨xo, xc, rfl, hrx, hfx, hbx⟩))
    go_meet
    have hB' := hbc.trans (hbx.mono hbc.size)
    have hB'' := hB'.alloc hB'.size (dyO y xo xc)
    have hsz : w.heap.size + 1 + 1 + 1 + 1 + 1 + 1 ≤ w2.heap.size := by have h := (hBq.trans (hB'.mono hBq.size)).size; simpa [w6] using h
    have hsf : w.heap.size + 1 + 1 + 1 + 1 + 1 + 1 ≤ w1.heap.size := by have h := (hBq.trans (hbc.mono hBq.size)).size; simpa [w6] using h
    exact ⟨_, xo, xc, rfl, rfl, hsz, hfx.mono hsf, Hd.new hrx, Hx.below hB'', hBq.trans (hB''.mono hBq.size)⟩
  obtain ⟨Py, oy, cy, rfl, rfl, gy, fy, Hy, Hx, hB2⟩ := hcut
  obtain ⟨wq2, hwq⟩ : ∃ wq, wq = wc := ⟨_, rfl⟩
  subst hwq
  go_upto_region 3 with fail
  go_cut [28, 29, 30, 31, 32, 33, 14, 15] (fun _ _ _ _ _ _ s1 s2 wx => ∃ P o' c', s1 = .pointer (some ⟨P, 0, none⟩) ∧ s2 = .int .i64 k3 ∧ w.heap.size + 1 + 1 + 1 + 1 + 1 + 1 ≤ P ∧ Frs (w.heap.size + 1 + 1 + 1 + 1 + 1 + 1) o' ∧ Hd wx P z o' c' ∧ Hd wx Px x ox cx ∧ Hd wx Py y oy cy ∧ Below (w6 w a b c ao bo co ac bc cc).heap.size (w6 w a b c ao bo co ac bc cc) wx)
  case first =>
    have hBq := hB2
    obtain ⟨ga, gb, gc⟩ := w6_hd hBq ra rb rc
    obtain ⟨g0, g1, g2, grow⟩ := gc
    have hTq := tabW_below hT (hw6.trans (hBq.mono hw6.size))
    go_wp2_with (first | (go_at_call 23; refine (hcz _ grow).mono ?_; rintro e w1 ⟨co', cc', rfl, hrc', _, hbc⟩) | (go_at_call 22; refine (hnz co' cc' _ hrc' (tabW_below hTq hbc)).mono ?_; rintro e w2 ⟨xo, xc, rfl, hrx, hfx, hbx⟩))
    go_meet
    have hB' := hbc.trans (hbx.mono hbc.size)
    have hB'' := hB'.alloc hB'.size (dyO z xo xc)
    have hsz : w.heap.size + 1 + 1 + 1 + 1 + 1 + 1 ≤ w2.heap.size := by have h := (hBq.trans (hB'.mono hBq.size)).size; simpa [w6] using h
    have hsf : w.heap.size + 1 + 1 + 1 + 1 + 1 + 1 ≤ w1.heap.size := by have h := (hBq.trans (hbc.mono hBq.size)).size; simpa [w6] using h
    exact ⟨_, xo, xc, rfl, rfl, hsz, hfx.mono hsf, Hd.new hrx, Hx.below hB'', Hy.below hB'', hBq.trans (hB''.mono hBq.size)⟩
  obtain ⟨Pz, oz, cz, rfl, rfl, gz, fz, Hz, Hx, Hy, hB3⟩ := hcut
  obtain ⟨wq3, hwq⟩ : ∃ wq, wq = wc := ⟨_, rfl⟩
  subst hwq
  obtain ⟨⟨p0, p1, p2⟩, m0, m1, m2⟩ := w6_out hB3 _ (Or.inl rfl)
  obtain ⟨⟨q0, q1, q2⟩, l0, l1, l2⟩ := w6_out hB3 _ (Or.inr (Or.inl rfl))
  obtain ⟨⟨r0, r1, r2⟩, j0, j1, j2⟩ := w6_out hB3 _ (Or.inr (Or.inr rfl))
  obtain ⟨x0, x1, x2, xr⟩ := Hx
  obtain ⟨y0, y1, y2, yr⟩ := Hy
  obtain ⟨z0, z1, z2, zr⟩ := Hz
  have hBw := hw6.trans (hB3.mono hw6.size)
  clear hnx hny hnz hcx hcy hcz
  have ex3 : ¬ Px = w.heap.size + 1 + 1 + 1 := by omega
  have fx3 : ¬ w.heap.size + 1 + 1 + 1 = Px := by omega
  have ex4 : ¬ Px = w.heap.size + 1 + 1 + 1 + 1 := by omega
  have fx4 : ¬ w.heap.size + 1 + 1 + 1 + 1 = Px := by omega
  have ex5 : ¬ Px = w.heap.size + 1 + 1 + 1 + 1 + 1 := by omega
  have fx5 : ¬ w.heap.size + 1 + 1 + 1 + 1 + 1 = Px := by omega
  have ey3 : ¬ Py = w.heap.size + 1 + 1 + 1 := by omega
  have fy3 : ¬ w.heap.size + 1 + 1 + 1 = Py := by omega
  have ey4 : ¬ Py = w.heap.size + 1 + 1 + 1 + 1 := by omega
  have fy4 : ¬ w.heap.size + 1 + 1 + 1 + 1 = Py := by omega
  have ey5 : ¬ Py = w.heap.size + 1 + 1 + 1 + 1 + 1 := by omega
  have fy5 : ¬ w.heap.size + 1 + 1 + 1 + 1 + 1 = Py := by omega
  have ez3 : ¬ Pz = w.heap.size + 1 + 1 + 1 := by omega
  have fz3 : ¬ w.heap.size + 1 + 1 + 1 = Pz := by omega
  have ez4 : ¬ Pz = w.heap.size + 1 + 1 + 1 + 1 := by omega
  have fz4 : ¬ w.heap.size + 1 + 1 + 1 + 1 = Pz := by omega
  have ez5 : ¬ Pz = w.heap.size + 1 + 1 + 1 + 1 + 1 := by omega
  have fz5 : ¬ w.heap.size + 1 + 1 + 1 + 1 + 1 = Pz := by omega
  have d34 : ¬ w.heap.size + 1 + 1 + 1 = w.heap.size + 1 + 1 + 1 + 1 := by omega
  have d35 : ¬ w.heap.size + 1 + 1 + 1 = w.heap.size + 1 + 1 + 1 + 1 + 1 := by omega
  have d43 : ¬ w.heap.size + 1 + 1 + 1 + 1 = w.heap.size + 1 + 1 + 1 := by omega
  have d45 : ¬ w.heap.size + 1 + 1 + 1 + 1 = w.heap.size + 1 + 1 + 1 + 1 + 1 := by omega
  have d53 : ¬ w.heap.size + 1 + 1 + 1 + 1 + 1 = w.heap.size + 1 + 1 + 1 := by omega
  have d54 : ¬ w.heap.size + 1 + 1 + 1 + 1 + 1 = w.heap.size + 1 + 1 + 1 + 1 := by omega
  cases h1 : (k1 == 0)
  · obtain rfl : ok = false := by rw [← hok, h1]; rfl
    go_wp2
    first | (go_region_held (fun w' => w'.cell? ⟨Px, 0, none⟩ = some (.bool x.neg) ∧ w'.cell? ⟨Px, 1, none⟩ = some (.slice ox x.mag.length cx) ∧ w'.cell? ⟨Px, 2, none⟩ = some (.int .i64 x.exp) ∧ w'.cell? ⟨Py, 0, none⟩ = some (.bool y.neg) ∧ w'.cell? ⟨Py, 1, none⟩ = some (.slice oy y.mag.length cy) ∧ w'.cell? ⟨Py, 2, none⟩ = some (.int .i64 y.exp) ∧ w'.cell? ⟨Pz, 0, none⟩ = some (.bool z.neg) ∧ w'.cell? ⟨Pz, 1, none⟩ = some (.slice oz z.mag.length cz) ∧ w'.cell? ⟨Pz, 2, none⟩ = some (.int .i64 z.exp)) (go_keep) (fail)) | fail
    all_goals (go_wp2; exact bodyPost_ret (v := .tuple #[.agg #[.bool x.neg, .slice ox x.mag.length cx, .int .i64 x.exp], .agg #[.bool y.neg, .slice oy y.mag.length cy, .int .i64 y.exp], .agg #[.bool z.neg, .slice oz z.mag.length cz, .int .i64 z.exp], .bool false]) (by simp [results, Tryd.results8, go_sem, p0, p1, p2, q0, q1, q2, r0, r1, r2]) rfl (made_end hBw fx fy fz xr yr zr _ _ _ _ _ _ _ _ _ _))
  · cases h2 : (k2 == 0)
    · obtain rfl : ok = false := by rw [← hok, h1, h2]; rfl
      go_wp2
      first | (go_region_held (fun w' => w'.cell? ⟨Px, 0, none⟩ = some (.bool x.neg) ∧ w'.cell? ⟨Px, 1, none⟩ = some (.slice ox x.mag.length cx) ∧ w'.cell? ⟨Px, 2, none⟩ = some (.int .i64 x.exp) ∧ w'.cell? ⟨Py, 0, none⟩ = some (.bool y.neg) ∧ w'.cell? ⟨Py, 1, none⟩ = some (.slice oy y.mag.length cy) ∧ w'.cell? ⟨Py, 2, none⟩ = some (.int .i64 y.exp) ∧ w'.cell? ⟨Pz, 0, none⟩ = some (.bool z.neg) ∧ w'.cell? ⟨Pz, 1, none⟩ = some (.slice oz z.mag.length cz) ∧ w'.cell? ⟨Pz, 2, none⟩ = some (.int .i64 z.exp)) (go_keep) (fail)) | fail
      all_goals (go_wp2; exact bodyPost_ret (v := .tuple #[.agg #[.bool x.neg, .slice ox x.mag.length cx, .int .i64 x.exp], .agg #[.bool y.neg, .slice oy y.mag.length cy, .int .i64 y.exp], .agg #[.bool z.neg, .slice oz z.mag.length cz, .int .i64 z.exp], .bool false]) (by simp [results, Tryd.results8, go_sem, p0, p1, p2, q0, q1, q2, r0, r1, r2]) rfl (made_end hBw fx fy fz xr yr zr _ _ _ _ _ _ _ _ _ _))
    · cases h3 : (k3 == 0)
      · obtain rfl : ok = false := by rw [← hok, h1, h2, h3]; rfl
        go_wp2
        first | (go_region_held (fun w' => w'.cell? ⟨Px, 0, none⟩ = some (.bool x.neg) ∧ w'.cell? ⟨Px, 1, none⟩ = some (.slice ox x.mag.length cx) ∧ w'.cell? ⟨Px, 2, none⟩ = some (.int .i64 x.exp) ∧ w'.cell? ⟨Py, 0, none⟩ = some (.bool y.neg) ∧ w'.cell? ⟨Py, 1, none⟩ = some (.slice oy y.mag.length cy) ∧ w'.cell? ⟨Py, 2, none⟩ = some (.int .i64 y.exp) ∧ w'.cell? ⟨Pz, 0, none⟩ = some (.bool z.neg) ∧ w'.cell? ⟨Pz, 1, none⟩ = some (.slice oz z.mag.length cz) ∧ w'.cell? ⟨Pz, 2, none⟩ = some (.int .i64 z.exp)) (go_keep) (fail)) | fail
        all_goals (go_wp2; exact bodyPost_ret (v := .tuple #[.agg #[.bool x.neg, .slice ox x.mag.length cx, .int .i64 x.exp], .agg #[.bool y.neg, .slice oy y.mag.length cy, .int .i64 y.exp], .agg #[.bool z.neg, .slice oz z.mag.length cz, .int .i64 z.exp], .bool false]) (by simp [results, Tryd.results8, go_sem, p0, p1, p2, q0, q1, q2, r0, r1, r2]) rfl (made_end hBw fx fy fz xr yr zr _ _ _ _ _ _ _ _ _ _))
      · obtain rfl : ok = true := by rw [← hok, h1, h2, h3]; rfl
        go_wp2
        go_region_held3 (fun w' => w'.cell? ⟨Px, 0, none⟩ = some (.bool x.neg) ∧ w'.cell? ⟨Px, 1, none⟩ = some (.slice ox x.mag.length cx) ∧ w'.cell? ⟨Px, 2, none⟩ = some (.int .i64 x.exp) ∧ w'.cell? ⟨Py, 0, none⟩ = some (.bool y.neg) ∧ w'.cell? ⟨Py, 1, none⟩ = some (.slice oy y.mag.length cy) ∧ w'.cell? ⟨Py, 2, none⟩ = some (.int .i64 y.exp) ∧ w'.cell? ⟨Pz, 0, none⟩ = some (.bool z.neg) ∧ w'.cell? ⟨Pz, 1, none⟩ = some (.slice oz z.mag.length cz) ∧ w'.cell? ⟨Pz, 2, none⟩ = some (.int .i64 z.exp)) (go_keep) (fail)
        go_wp2
        exact bodyPost_ret (v := .tuple #[.agg #[.bool x.neg, .slice ox x.mag.length cx, .int .i64 x.exp], .agg #[.bool y.neg, .slice oy y.mag.length cy, .int .i64 y.exp], .agg #[.bool z.neg, .slice oz z.mag.length cz, .int .i64 z.exp], .bool true]) (by simp [results, Tryd.results8, go_sem, p0, p1, p2, q0, q1, q2, r0, r1, r2]) rfl (made_end hBw fx fy fz xr yr zr _ _ _ _ _ _ _ _ _ _)
end Go.Proofs.YtjdhadpfhnmkhaaDoor
