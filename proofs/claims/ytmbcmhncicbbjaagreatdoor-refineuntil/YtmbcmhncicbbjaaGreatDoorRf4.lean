/- What Left answers. -/
import Derived.Test.YtmbcmhncicbbjaaGreatDoorRf3
namespace Go.Proofs.YtmbcmhncicbbjaaGreatDoor
open Go.RowKit

theorem rfin1 (g : Nat) (ao : Option Addr) (cap : Nat) (xs : List Nat) (w : World) (h0 : w.cell? ⟨g, 0, none⟩ = some (.slice ao xs.length cap)) (hr : GRow w ao xs) (hF : FW xs) (hn : xs.length ≤ 1125899906842624) :
    Calls Tryz.prog 25 #[.slice (some ⟨g, 0, none⟩) 1 1] w fun e w' => e = .returned (.bool (xs.all finB)) ∧ w' = w := by
  have h := finite14_any 1 g 1 (fun _ => ao) (fun _ => cap) (fun _ => xs) w (by omega) (fun j hj => by rw [show j = 0 by omega]; exact h0) (fun _ _ => hr) (fun _ _ => hF) (fun _ _ => hn)
  rw [show fa (fun _ => xs) 1 = xs.all finB from by simp only [fa, Bool.true_and]] at h
  exact h
theorem rfin2 (g : Nat) (ao bo : Option Addr) (cap cap2 : Nat) (xs ys : List Nat) (w : World) (h0 : w.cell? ⟨g, 0, none⟩ = some (.slice ao xs.length cap)) (h1 : w.cell? ⟨g, 1, none⟩ = some (.slice bo ys.length cap2)) (hr : GRow w ao xs) (hs : GRow w bo ys) (hF : FW xs) (hG : FW ys) (hn : xs.length ≤ 1125899906842624) (hm : ys.length ≤ 1125899906842624) :
    Calls Tryz.prog 25 #[.slice (some ⟨g, 0, none⟩) 2 2] w fun e w' => e = .returned (.bool (xs.all finB && ys.all finB)) ∧ w' = w := by
  have h := finite14_any 2 g 2 (fun j => if j = 0 then ao else bo) (fun j => if j = 0 then cap else cap2) (fun j => if j = 0 then xs else ys) w (by omega)
    (fun j hj => by
      by_cases e : j = 0
      · subst e; exact h0
      · rw [show j = 1 by omega]; exact h1)
    (fun j _ => by split <;> assumption) (fun j _ => by split <;> assumption) (fun j _ => by split <;> assumption)
  rw [show fa (fun j => if j = 0 then xs else ys) 2 = (xs.all finB && ys.all finB) from by simp [fa]] at h
  exact h
theorem rfin3 (g : Nat) (ao bo co : Option Addr) (cap cap2 cap3 : Nat) (xs ys zs : List Nat) (w : World) (h0 : w.cell? ⟨g, 0, none⟩ = some (.slice ao xs.length cap)) (h1 : w.cell? ⟨g, 1, none⟩ = some (.slice bo ys.length cap2)) (h2 : w.cell? ⟨g, 2, none⟩ = some (.slice co zs.length cap3)) (hr : GRow w ao xs) (hs : GRow w bo ys) (ht : GRow w co zs) (hF : FW xs) (hG : FW ys) (hH : FW zs) (hn : xs.length ≤ 1125899906842624) (hm : ys.length ≤ 1125899906842624) (hk : zs.length ≤ 1125899906842624) :
    Calls Tryz.prog 25 #[.slice (some ⟨g, 0, none⟩) 3 3] w fun e w' => e = .returned (.bool (xs.all finB && (ys.all finB && zs.all finB))) ∧ w' = w := by
  have h := finite14_any 3 g 3 (fun j => if j = 0 then ao else if j = 1 then bo else co) (fun j => if j = 0 then cap else if j = 1 then cap2 else cap3) (fun j => if j = 0 then xs else if j = 1 then ys else zs) w (by omega)
    (fun j hj => by
      by_cases e : j = 0
      · subst e; exact h0
      · by_cases e2 : j = 1
        · subst e2; exact h1
        · rw [show j = 2 by omega]; exact h2)
    (fun j _ => by split <;> first | assumption | (split <;> assumption)) (fun j _ => by split <;> first | assumption | (split <;> assumption)) (fun j _ => by split <;> first | assumption | (split <;> assumption))
  rw [show fa (fun j => if j = 0 then xs else if j = 1 then ys else zs) 3 = (xs.all finB && (ys.all finB && zs.all finB)) from by simp [fa, Bool.and_assoc]] at h
  exact h
/-- A list of floats and an error handed back. -/
def GaveE (w : World) (a : List Nat × Int) (e : Ending) (w' : World) : Prop := ∃ zo zc, e = .returned (.tuple #[.slice zo a.1.length zc, .int .i64 a.2]) ∧ GRow w' zo a.1 ∧ FW a.1 ∧ a.1.length ≤ zc ∧ Frs w.heap.size zo ∧ Below w.heap.size w w'
theorem GaveE.none {w w' : World} (er : Int) (h : Below w.heap.size w w') : GaveE w ([], er) (.returned (.tuple #[.slice .none 0 0, .int .i64 er])) w' := ⟨.none, 0, rfl, Or.inl rfl, (fun x hx => (by cases hx)), Nat.le_refl _, Frs.none _, h⟩
/-- Where a slice may lie. -/
def Shp (ao : Option Addr) (cap : Nat) : Prop := (ao = none ∧ cap = 0) ∨ (∃ b off, ao = some ⟨b, off, none⟩) ∨ (cap = 0 ∧ ∃ a, ao = some a)
/-- The matrix's box, and the row that is made. -/
structure LeS (w wr : World) (r c : Int) (ao : Option Addr) (n cap g R : Nat) (z : Nat → Nat) : Prop where
  mbox : B3 wr w.heap.size (.int .i64 r) (.int .i64 c) (.slice ao n cap)
  row : RRow wr g R z
  lt : g < wr.heap.size
  lo : w.heap.size < g
  below : Below w.heap.size w wr
section
variable {w wr w1 : World} {r c : Int} {ao : Option Addr} {n cap g R : Nat} {z : Nat → Nat}
theorem LeS.later (h : LeS w wr r c ao n cap g R z) (hb : Below wr.heap.size wr w1) : LeS w w1 r c ao n cap g R z :=
  ⟨h.mbox.below hb, h.row.below hb h.lt, Nat.lt_of_lt_of_le h.lt hb.size, h.lo, h.below.trans (hb.mono h.below.size)⟩
theorem LeS.set (h : LeS w wr r c ao n cap g R z) (q v : Nat) : LeS w (wr.setCell ⟨g, q, none⟩ (.float .f64 v)) r c ao n cap g R (fun p => if p = q then v else z p) := by
  have := h.lo
  exact ⟨h.mbox.far (by omega) _, h.row.set q v, by rw [sset_size]; exact h.lt, h.lo, h.below.setCell (by show w.heap.size ≤ g; omega) _⟩
end
theorem rwL_fw {C : Nat} {ms : List Nat} (hF : FW ms) {i : Nat} (h : i * C + C ≤ ms.length) : FW (rwL C ms i) := fun x hx => by
  obtain ⟨j, hj, rfl⟩ := List.mem_map.1 hx
  have := List.mem_range.1 hj
  exact hF.at (by omega)
theorem rwL_fin {C : Nat} {ms : List Nat} (hF : ms.all finB = true) {i : Nat} (h : i * C + C ≤ ms.length) : (rwL C ms i).all finB = true := by
  refine all_good (fun j hj => ?_)
  rw [rwL_len] at hj
  rw [rwL_at hj]
  exact fin_at hF (by omega)
theorem rwL_part {w : World} {b off : Nat} {ms : List Nat} (hc : ∀ j, j < ms.length → w.cell? ⟨b, off + j, none⟩ = some (.float .f64 (ms.getD j 0))) {C i : Nat} (h : i * C + C ≤ ms.length) : GRow w (some ⟨b, off + i * C, none⟩) (rwL C ms i) := by
  refine Or.inr ⟨b, off + i * C, rfl, fun j hj => ?_⟩
  rw [rwL_len] at hj
  rw [rwL_at hj, Nat.add_assoc]
  exact hc _ (by omega)
theorem dz_right (X : Int) : rightB (dz X) = true := by
  by_cases h : (nrm X (-2148)).2 = 0
  · exact (nrm_ok h).1
  · have e : dz X = dy0 := by
      unfold dz
      revert h
      unfold nrm
      split
      · intro h; exact absurd rfl h
      · split
        · intro _; rfl
        · intro h; exact absurd rfl h
    rw [e]; rfl
theorem dxW_lt (xs ys : List Nat) (m : Int) : dxW xs ys m < 18446744073709551616 := by
  have h := dz_right (dI xs ys xs.length)
  unfold dxW
  generalize dz (dI xs ys xs.length) = d at *
  unfold rndW
  split
  · omega
  · rename_i h0
    have := rSz_lt (vl d.mag) d.exp (szm d.neg m) (right_ne h h0).1
    split <;> omega
theorem lfL_fw (R C : Nat) (ms xs bs : List Nat) : FW (lfL R C ms xs bs) := fun x hx => by
  obtain ⟨j, _, rfl⟩ := List.mem_map.1 hx
  exact dxW_lt _ _ _
theorem toL_same {n : Nat} {f g : Nat → Nat} (h : ∀ i, i < n → f i = g i) : toL' n f = toL' n g := by
  unfold toL'
  exact List.map_congr_left (fun i hi => h i (List.mem_range.1 hi))
set_option maxRecDepth 100000 in
set_option maxHeartbeats 4000000 in
theorem left_any (r c : Int) (ms xs bs : List Nat) (ao xo bo : Option Addr) (cap xc bc : Nat) (w : World) (hT : TabW w) (hM : GRow w ao ms) (hX : GRow w xo xs) (hB : GRow w bo bs) (fM : FW ms) (fX : FW xs) (fB : FW bs) (lM : ms.length ≤ 1125899906842624) (lX : xs.length ≤ 1125899906842624) (lB : bs.length ≤ 1125899906842624) (hz : Shp ao cap) (hcap : ms.length ≤ cap) :
    Calls Tryz.prog 10 #[mxV r c ao ms.length cap, .slice xo xs.length xc, .slice bo bs.length bc] w fun e w' => GaveE w (lfA r c ms xs bs) e w' := by
  have cf := fun W => rfit_any14 r c ao xo bo ms.length cap xs.length xc bs.length bc W
  have B0 := below_one w (.cells #[.int .i64 r, .int .i64 c, .slice ao ms.length cap] 24)
  have M0 := B3.new w (.int .i64 r) (.int .i64 c) (.slice ao ms.length cap) 24
  cases q : fit14 r c ms.length xs.length bs.length
  · rw [q] at cf
    have eA : lfA r c ms xs bs = ([], 4) := by unfold lfA; rw [q]; rfl
    rw [eA]
    go_enter Tryz.func10, Tryz.ntmps10
    go_wp2_with (go_at_call 24; refine (cf _).mono ?_; rintro e w1 ⟨rfl, b1⟩; have B1 := B0.trans (b1.mono B0.size))
    exact bodyPost_ret (v := .tuple #[.slice none 0 0, .int .i64 4]) (by simp [results, Tryz.results10, go_sem]) rfl (GaveE.none 4 B1)
  rw [q] at cf
  have cfi : ∀ W, Below w.heap.size w W → Calls Tryz.prog 25 #[.slice (some ⟨W.heap.size, 0, none⟩) 3 3] (W.alloc (.cells #[.slice ao ms.length cap, .slice xo xs.length xc, .slice bo bs.length bc] 22)) fun e w' => e = .returned (.bool (ms.all finB && (xs.all finB && bs.all finB))) ∧ w' = W.alloc (.cells #[.slice ao ms.length cap, .slice xo xs.length xc, .slice bo bs.length bc] 22) := fun W h =>
    rfin3 W.heap.size ao xo bo cap xc bc ms xs bs _ (by go_simp) (by go_simp) (by go_simp) (hM.below (h.alloc h.size _)) (hX.below (h.alloc h.size _)) (hB.below (h.alloc h.size _)) fM fX fB lM lX lB
  cases q2 : (ms.all finB && (xs.all finB && bs.all finB))
  · rw [q2] at cfi
    have eA : lfA r c ms xs bs = ([], 5) := by unfold lfA; rw [q, q2]; rfl
    rw [eA]
    go_enter Tryz.func10, Tryz.ntmps10
    go_wp2_with (first
      | (go_at_call 24; refine (cf _).mono ?_; rintro e w1 ⟨rfl, b1⟩; have B1 := B0.trans (b1.mono B0.size); obtain ⟨m0, m1, m2, _⟩ := M0.below b1; have B2 := fun o => B1.alloc B1.size o)
      | (go_at_call 25; refine (cfi _ B1).mono ?_; rintro e w' ⟨rfl, h'⟩; subst w'))
    exact bodyPost_ret (v := .tuple #[.slice none 0 0, .int .i64 5]) (by simp [results, Tryz.results10, go_sem]) rfl (GaveE.none 5 (B2 _))
  rw [q2] at cfi
  simp only [Bool.and_eq_true] at q2
  obtain ⟨aM, aX, aB⟩ := q2
  have eA : lfA r c ms xs bs = if (lfL r.toNat c.toNat ms xs bs).all finB then (lfL r.toNat c.toNat ms xs bs, 0) else ([], 6) := by unfold lfA; rw [q, aM, aX, aB]; rfl
  unfold fit14 at q
  simp only [Bool.and_eq_true, decide_eq_true_eq] at q
  obtain ⟨⟨q1, q2⟩, q3⟩ := q
  obtain ⟨R, C, rfl, rfl, hR, hC, hl⟩ := rightM_nat q1
  rw [Int.toNat_natCast, Int.toNat_natCast] at eA
  have hm := mul48 hR hC
  rw [← hl] at hm
  have lxC : xs.length = C := by omega
  have lbR : bs.length = R := by omega
  have HL : Hid (ms.length = R * C) := hl
  have HX : Hid (xs.length = C) := lxC
  have HBl : Hid (bs.length = R) := lbR
  have HEA : Hid (lfA R C ms xs bs = if (lfL R C ms xs bs).all finB then (lfL R C ms xs bs, 0) else ([], 6)) := eA
  clear eA q1 q2 q3 hl lxC lbR
  obtain ⟨n, hn⟩ : ∃ n, ms.length = n := ⟨_, rfl⟩
  obtain ⟨xn, hxn⟩ : ∃ n, xs.length = n := ⟨_, rfl⟩
  obtain ⟨bn, hbn⟩ : ∃ n, bs.length = n := ⟨_, rfl⟩
  have HN : Hid (ms.length = n) := hn
  have HXN : Hid (xs.length = xn) := hxn
  have HBN : Hid (bs.length = bn) := hbn
  rw [hn] at cf cfi M0 B0 hcap hm ⊢
  rw [hxn] at cf cfi ⊢
  rw [hbn] at cf cfi ⊢
  have hbR : Hid (bn = R) := (show bn = R by rw [← hbn]; exact HBl.out)
  clear hn hxn hbn lM lX lB
  have hmk := run_make_row' (P := Tryz.prog) 22 48 (.float .f64 0) 8 Tryz.underlying22 Tryz.infoF rfl .i64 .i64 R (by omega) (by omega)
  have hst := vstoref Tryz.prog
  go_enter Tryz.func10, Tryz.ntmps10
  go_upto_region 7 with (first
    | (go_at_call 24; refine (cf _).mono ?_; rintro e w1 ⟨rfl, b1⟩; have B1 := B0.trans (b1.mono B0.size); have M1 := M0.below b1; obtain ⟨m0, m1, m2, _⟩ := id M1; have B2 := fun o => B1.alloc B1.size o; have M2 := fun o => M1.alloc o)
    | (go_at_call 25; refine (cfi _ B1).mono ?_; rintro e w' ⟨rfl, h'⟩; subst w'))
  have sz1 : w.heap.size < w1.heap.size := M1.2.2.2.2.2.2
  have S0 : LeS w ((w1.alloc (.cells #[.slice ao n cap, .slice xo xn xc, .slice bo bn bc] 22)).alloc (.cells (madeCells #[.float .f64 0] R) 48)) R C ao n cap (w1.heap.size + 1) R (fun _ => 0) := by
    have h1 := RRow.made (w1.alloc (.cells #[.slice ao n cap, .slice xo xn xc, .slice bo bn bc] 22)) R
    rw [show (w1.alloc (.cells #[.slice ao n cap, .slice xo xn xc, .slice bo bn bc] 22)).heap.size = w1.heap.size + 1 by go_simp] at h1
    exact ⟨(M1.alloc _).alloc _, h1, by go_simp, by omega, (B2 _).alloc (B2 _).size _⟩
  have hg1 : w.heap.size ≤ w1.heap.size + 1 := by omega
  generalize (w1.alloc (.cells #[.slice ao n cap, .slice xo xn xc, .slice bo bn bc] 22)).alloc (.cells (madeCells #[.float .f64 0] R) 48) = W1 at *
  generalize w1.heap.size + 1 = g at *
  clear M1 m0 m1 m2 b1 B1 B2 M2 cf cfi hmk M0 B0 sz1
  go_loopg [31] R (fun gg s31 wr => ∃ (i : Nat) (z : Nat → Nat), i ≤ R ∧ gg = R - i ∧ s31 = .int .i64 i ∧ Hid (∀ p, p < i → z p = lfW (rwL C ms p) xs (bs.getD p 0)) ∧ LeS w wr R C ao n cap g R z)
  case atStart => exact ⟨0, _, Nat.zero_le _, rfl, rfl, fun p hp => by omega, S0⟩
  case round =>
    clear S0
    obtain ⟨i, z, hi, hg, rfl, hZ, S⟩ := hrel
    have HG : Hid (gk = R - i) := hg
    clear hg
    by_cases hlt : i < R
    · have i1 : (i : Int) < (R : Int) := by omega
      have hib : i < bs.length := by rw [HBl.out]; exact hlt
      have i2 : (i : Int) < (bn : Int) := by rw [hbR.out]; exact i1
      have hpc : i * C + C ≤ ms.length := by rw [HL.out, ← Nat.succ_mul]; exact Nat.mul_le_mul hlt (Nat.le_refl _)
      have SD := S.later (Below.refl _ _).drew
      obtain ⟨b2, off2, rfl⟩ : ∃ b off, bo = some ⟨b, off, none⟩ := by
        rcases hB with h | ⟨b, off, rfl, _⟩
        · omega
        · exact ⟨b, off, rfl⟩
      have hb0 := srow_to (w0 := w) hB S.below hib
      have la : ∀ W (ro : Option Addr) (rc : Nat), TabW W → GRow W ro (rwL C ms i) → GRow W xo xs → Calls Tryz.prog 26 #[.slice ro C rc, .slice xo xn xc, .float .f64 (bs.getD i 0)] W fun e w' => e = .returned (.tuple #[.float .f64 (lfW (rwL C ms i) xs (bs.getD i 0)), .int .i64 0]) ∧ Below W.heap.size W w' := fun W ro rc h1 h2 h3 => by
        have := leftat_any (rwL C ms i) xs (bs.getD i 0) ro xo rc xc W h1 h2 h3 (rwL_fw fM hpc) fX (fB.at hib) (fin_at aB hib) (rwL_fin aM hpc) aX (by rw [rwL_len]; exact HX.out) (by rw [rwL_len]; omega)
        rw [rwL_len, HXN.out] at this
        exact this
      have HNX : Hid (∀ p, p < i + 1 → (if p = i then lfW (rwL C ms i) xs (bs.getD i 0) else z p) = lfW (rwL C ms p) xs (bs.getD p 0)) := fun p hp => by
        by_cases e : p = i
        · rw [if_pos e, e]
        · rw [if_neg e]; exact hZ.out p (by omega)
      have hTr := tabW_below hT S.below
      have hXr := hX.below S.below
      have hTu : ∀ u : LOf wr, TabW u.val := fun u => tabW_below hTr u.below
      have hXu : ∀ u : LOf wr, GRow u.val xo xs := fun u => hXr.below u.below
      generalize bs.getD i 0 = bi at *
      generalize lfW (rwL C ms i) xs bi = v at *
      obtain ⟨m0, m1, m2, _⟩ := id S.mbox
      have hne : Nonempty (LOf wr) := LOf.any _
      have k0 : ∀ u : LOf wr, u.val.cell? ⟨w.heap.size, 0, none⟩ = some (.int .i64 R) := fun u => u.cell m0
      have k1 : ∀ u : LOf wr, u.val.cell? ⟨w.heap.size, 1, none⟩ = some (.int .i64 C) := fun u => u.cell m1
      have k3 : ∀ u : LOf wr, u.val.cell? ⟨b2, off2 + i, none⟩ = some (.float .f64 bi) := fun u => u.cell hb0
      clear hZ hTr hXr SD hg1
      have ww2 : IntKind.i64.wrap ((i : Int) + 1) = (i : Int) + 1 := by simp only [IntKind.wrap_i64]; omega
      have ww0 : IntKind.i64.wrap 0 = 0 := rfl
      have hpn0 : i * C + C ≤ n := by rw [HN.out] at hpc; exact hpc
      rcases hz with ⟨rfl, rfl⟩ | ⟨b, off, rfl⟩ | ⟨rfl, a, rfl⟩
      rotate_left 2
      · have hC0 : C = 0 := by omega
        subst hC0
        have hn0 : n = 0 := by omega
        subst hn0
        have hrow : ∀ (u : LOf wr) (ro : Option Addr), GRow u.val ro (rwL 0 ms i) := fun u _ => Or.inl (rwL_len _ _ _)
        clear hpc hpn0
        have k2 : ∀ u : LOf wr, u.val.cell? ⟨w.heap.size, 2, none⟩ = some (.slice (some a) 0 0) := fun u => u.cell m2
        go_wp2
        refine region_later (by kernel_rfl) (by kernel_rfl) ?_
        repeat (quiet_step ((go_at_call 26; exact later_of (la _ _ _ (hTu _) (hrow _ _) (hXu _)))))
        refine wpQuiet_nil ?_
        intro w' hw'
        obtain ⟨u, rfl⟩ := hw'
        have S5 := S.later u.below
        have g2 := World.rowIs.cell S5.row hlt
        have g3 := World.rowIs.frozen S5.row i
        have S6 := S5.set i v
        clear k0 k1 k2 k3 m0 m1 m2 hb0 hrow S la hTu hXu
        go_wp2
        go_roundg (R - (i + 1))
        case measure => rw [HG.out]; omega
        case rel => exact ⟨i + 1, _, by omega, rfl, by go_num, HNX.out, S6⟩
      · have hC0 : C = 0 := by omega
        subst hC0
        have hn0 : n = 0 := by omega
        subst hn0
        have hrow : ∀ (u : LOf wr) (ro : Option Addr), GRow u.val ro (rwL 0 ms i) := fun u _ => Or.inl (rwL_len _ _ _)
        clear hpc hpn0
        have k2 : ∀ u : LOf wr, u.val.cell? ⟨w.heap.size, 2, none⟩ = some (.slice none 0 0) := fun u => u.cell m2
        go_wp2
        refine region_later (by kernel_rfl) (by kernel_rfl) ?_
        repeat (quiet_step ((go_at_call 26; exact later_of (la _ _ _ (hTu _) (hrow _ _) (hXu _)))))
        refine wpQuiet_nil ?_
        intro w' hw'
        obtain ⟨u, rfl⟩ := hw'
        have S5 := S.later u.below
        have g2 := World.rowIs.cell S5.row hlt
        have g3 := World.rowIs.frozen S5.row i
        have S6 := S5.set i v
        clear k0 k1 k2 k3 m0 m1 m2 hb0 hrow S la hTu hXu
        go_wp2
        go_roundg (R - (i + 1))
        case measure => rw [HG.out]; omega
        case rel => exact ⟨i + 1, _, by omega, rfl, by go_num, HNX.out, S6⟩
      by_cases hC0 : C = 0
      · subst hC0
        have hrow : ∀ (u : LOf wr) (ro : Option Addr), GRow u.val ro (rwL 0 ms i) := fun u _ => Or.inl (rwL_len _ _ _)
        clear hpc hpn0
        have k2 : ∀ u : LOf wr, u.val.cell? ⟨w.heap.size, 2, none⟩ = some (.slice (some ⟨b, off, none⟩) n cap) := fun u => u.cell m2
        go_wp2
        refine region_later (by kernel_rfl) (by kernel_rfl) ?_
        repeat (quiet_step ((go_at_call 26; exact later_of (la _ _ _ (hTu _) (hrow _ _) (hXu _)))))
        refine wpQuiet_nil ?_
        intro w' hw'
        obtain ⟨u, rfl⟩ := hw'
        have S5 := S.later u.below
        have g2 := World.rowIs.cell S5.row hlt
        have g3 := World.rowIs.frozen S5.row i
        have S6 := S5.set i v
        clear k0 k1 k2 k3 m0 m1 m2 hb0 hrow S la hTu hXu
        go_wp2
        go_roundg (R - (i + 1))
        case measure => rw [HG.out]; omega
        case rel => exact ⟨i + 1, _, by omega, rfl, by go_num, HNX.out, S6⟩
      · obtain ⟨p, hp⟩ : ∃ p, i * C = p := ⟨_, rfl⟩
        have hrow : ∀ u : LOf wr, GRow u.val (some ⟨b, off + p, none⟩) (rwL C ms i) := fun u => by
          rcases hM.below S.below with h | ⟨b', off', e, hc⟩
          · exact Or.inl (by rw [rwL_len]; omega)
          · cases e
            have h0 := rwL_part hc (C := C) (i := i) hpc
            rw [hp] at h0
            exact h0.below u.below
        rw [hp] at hpn0
        have ww1 : IntKind.i64.wrap ((i : Int) * (C : Int)) = (p : Int) := by rw [mulI, hp]; simp only [IntKind.wrap_i64]; omega
        have ww3 : IntKind.i64.wrap (((i : Int) + 1) * (C : Int)) = (p : Int) + (C : Int) := by
          rw [Int.add_mul, Int.one_mul, mulI, hp]; simp only [IntKind.wrap_i64]; omega
        have s1 : (p : Int) ≤ (p : Int) + (C : Int) := by omega
        have s2 : (p : Int) + (C : Int) ≤ (cap : Int) := by omega
        have s5 : ((p : Int) + (C : Int)).toNat - p = C := by omega
        have s6 : ¬ cap = p := by omega
        clear hp hpc
        have k2 : ∀ u : LOf wr, u.val.cell? ⟨w.heap.size, 2, none⟩ = some (.slice (some ⟨b, off, none⟩) n cap) := fun u => u.cell m2
        go_wp2
        refine region_later (by kernel_rfl) (by kernel_rfl) ?_
        repeat (quiet_step ((go_at_call 26; exact later_of (la _ _ _ (hTu _) (hrow _) (hXu _)))))
        refine wpQuiet_nil ?_
        intro w' hw'
        obtain ⟨u, rfl⟩ := hw'
        have S5 := S.later u.below
        have g2 := World.rowIs.cell S5.row hlt
        have g3 := World.rowIs.frozen S5.row i
        have S6 := S5.set i v
        clear k0 k1 k2 k3 m0 m1 m2 hb0 hrow S la hTu hXu
        go_wp2
        go_roundg (R - (i + 1))
        case measure => rw [HG.out]; omega
        case rel => exact ⟨i + 1, _, by omega, rfl, by go_num, HNX.out, S6⟩
    · have ei : i = R := by omega
      subst ei
      have i1 : ¬ (i : Int) < (i : Int) := by omega
      have EL : Hid (toL' i z = lfL i C ms xs bs) := (show _ = _ from toL_same (fun p hp => hZ.out p hp))
      have HR := S.row.grow (toL'_len i z) (fun j hj => toL'_at hj)
      have HB1 := S.below
      have hgl := S.lo
      have FL := lfL_fw i C ms xs bs
      have LL : Hid ((lfL i C ms xs bs).length = i) := toL'_len _ _
      rw [EL.out] at HR
      clear hZ EL
      have hfi : ∀ W, Below wr.heap.size wr W → Calls Tryz.prog 25 #[.slice (some ⟨W.heap.size, 0, none⟩) 1 1] (W.alloc (.cells #[.slice (some ⟨g, 0, none⟩) i i] 22)) fun e w' => e = .returned (.bool ((lfL i C ms xs bs).all finB)) ∧ w' = W.alloc (.cells #[.slice (some ⟨g, 0, none⟩) i i] 22) := fun W h => rfin1 W.heap.size (some ⟨g, 0, none⟩) i _ _ (by rw [LL.out]; go_simp) (HR.below (h.alloc h.size _)) FL (by rw [LL.out]; omega)
      have hfi := hfi wr (Below.refl _ _)
      have HB2 := HB1.alloc HB1.size (.cells #[.slice (some ⟨g, 0, none⟩) i i] 22)
      have HR2 := HR.below ((Below.refl wr.heap.size wr).alloc (Nat.le_refl _) (.cells #[.slice (some ⟨g, 0, none⟩) i i] 22))
      cases qa : (lfL i C ms xs bs).all finB
      · rw [qa] at hfi
        have EE : Hid (lfA i C ms xs bs = ([], 6)) := (show _ = _ by rw [HEA.out, qa]; rfl)
        clear qa
        go_wp2_with (go_at_call 25; refine hfi.mono ?_; rintro e w' ⟨rfl, h'⟩; subst w')
        exact bodyPost_ret (v := .tuple #[.slice none 0 0, .int .i64 6]) (by simp [results, Tryz.results10, go_sem]) rfl (by rw [EE.out]; exact GaveE.none 6 HB2)
      · rw [qa] at hfi
        have EE : Hid (lfA i C ms xs bs = (lfL i C ms xs bs, 0)) := (show _ = _ by rw [HEA.out, qa]; rfl)
        clear qa
        go_wp2_with (go_at_call 25; refine hfi.mono ?_; rintro e w' ⟨rfl, h'⟩; subst w')
        exact bodyPost_ret (v := .tuple #[.slice (some ⟨g, 0, none⟩) i i, .int .i64 0]) (by simp [results, Tryz.results10, go_sem]) rfl (by rw [EE.out]; exact ⟨some ⟨g, 0, none⟩, i, (by simp only [LL.out]), HR2, FL, (by simp only [LL.out]; exact Nat.le_refl _), (fun a e => (by cases e; exact Nat.le_of_lt hgl)), HB2⟩)
end Go.Proofs.YtmbcmhncicbbjaaGreatDoor
