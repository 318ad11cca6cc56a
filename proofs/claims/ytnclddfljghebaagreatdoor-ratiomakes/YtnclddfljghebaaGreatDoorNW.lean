/- What the reference's NatGcd answers. -/
import Derived.Test.YtnclddfljghebaaGreatDoorNV
namespace Go.Proofs.YtnclddfljghebaaGreatDoor
open Go.RowKit

theorem lh_topd {Y : Nat} (h : 1 ≤ (lh Y).length) : dg Y ((lh Y).length - 1) ≠ 0 := by
  have hl := lh_length Y
  unfold nh at hl
  have h0 : Y ≠ 0 := fun e => by subst e; rw [show (lh 0).length = 0 from rfl] at h; omega
  have hb := (bl_spec h0).1
  have hw : wt ((lh Y).length - 1) ≤ Y := Nat.le_trans (Nat.pow_le_pow_right (by omega) (by omega)) hb
  have hY := lh_lt Y
  have hq : Y / wt ((lh Y).length - 1) < 4294967296 := by
    apply Nat.div_lt_of_lt_mul
    rw [← wt_succ, show (lh Y).length - 1 + 1 = (lh Y).length by omega]
    exact hY
  unfold dg
  rw [Nat.mod_eq_of_lt hq]
  have := Nat.div_pos hw (wt_pos _)
  omega
theorem min_cast7 (z : Nat) : min ((z : Nat) : Int) 4294967295 = ((min z 4294967295 : Nat) : Int) := by omega
theorem minU7 {P : Program} {a b c : Int} (h : min a b = c) (ts : Array TypeId) (t : TypeId) (w : World) : (Builtin.min_ ts t #[.int .u64 a, .int .u64 b]).run P w = .ok (.int .u64 c) w := by
  have e : Builtin.min_ ts t #[.int .u64 a, .int .u64 b] = Builtin.min2 (.int .u64 a) (.int .u64 b) := by
    unfold Builtin.min_; simp
  rw [e]
  unfold Builtin.min2
  have e2 : (if b < a then b else a) = c := by rw [← h]; split <;> omega
  simp only [e2, Sem.run_pure]
/-- The three rows that the loop keeps. -/
structure LgS (w wr : World) (gu gv go n m S V k : Nat) : Prop where
  u : FRow wr gu (n + 1) (dg (lf S V k))
  v : FRow wr gv m (dg V)
  o : FRow wr go (n - m + 1) (fun j => if k ≤ j then dg (S / V) j else 0)
  lu : gu < wr.heap.size
  lv : gv < wr.heap.size
  lo : go < wr.heap.size
  b : Below w.heap.size w wr
theorem LgS.later {w wr wr' : World} {gu gv go n m S V k : Nat} (h : LgS w wr gu gv go n m S V k) (hb : Below wr.heap.size wr wr') : LgS w wr' gu gv go n m S V k :=
  ⟨World.rowIs.of_block h.u (hb.block _ h.lu), World.rowIs.of_block h.v (hb.block _ h.lv), World.rowIs.of_block h.o (hb.block _ h.lo), Nat.lt_of_lt_of_le h.lu hb.size, Nat.lt_of_lt_of_le h.lv hb.size, Nat.lt_of_lt_of_le h.lo hb.size, h.b.trans (hb.mono h.b.size)⟩
theorem LgS.took {w wr wr' : World} {gv go n m S V i : Nat} (h : LgS w wr w.heap.size gv go n m S V (i + 1)) (hu : FRow wr' w.heap.size (n + 1) (dg (lf S V i))) (hk : KeepG w.heap.size wr wr') (hgv : gv ≠ w.heap.size) (hgo : go ≠ w.heap.size) (hgo2 : go ≠ gv) (hgl : w.heap.size ≤ go) (x : Int) (hx : x = ((dg (S / V) i : Nat) : Int)) :
    LgS w (wr'.setCell ⟨go, i, none⟩ (.int .u64 x)) w.heap.size gv go n m S V i := by
  subst hx
  have hv := hk.frow h.v hgv h.lv
  have ho := hk.frow h.o hgo h.lo
  have hs := hk.size
  have hb : Below w.heap.size w wr' := h.b.trans (hk.below (Nat.le_refl _) h.b.size)
  refine ⟨World.rowIs.of_block hu (Below.heap_setCell _ _ _ _ (Ne.symm hgo)), World.rowIs.of_block hv (Below.heap_setCell _ _ _ _ (Ne.symm hgo2)), (ho.set i (dg (S / V) i)).congr (fun j hj => ?_), ?_, ?_, ?_, hb.setCell (p := ⟨go, i, none⟩) hgl _⟩
  · by_cases e : j = i
    · subst e; rw [if_pos rfl, if_pos (Nat.le_refl _)]
    · rw [if_neg e]
      by_cases c : i + 1 ≤ j
      · rw [if_pos c, if_pos (by omega)]
      · rw [if_neg c, if_neg (by omega)]
  · have := h.lu; simp [World.setCell]; omega
  · have := h.lv; simp [World.setCell]; omega
  · have := h.lo; simp [World.setCell]; omega
theorem LgS.ns {w wr : World} {gu gv go n m S V k : Nat} (h : LgS w wr gu gv go n m S V k) : NS wr (some ⟨gv, 0, none⟩) m (th m V) := FRow.ns h.v (fun _ _ => rfl)
theorem digit_big {T V d q : Nat} (hV : 0 < V) (h : T / V = d) (hq : d < q) : T < q * V := by
  subst h
  exact (Nat.div_lt_iff_lt_mul hV).1 hq
set_option maxRecDepth 100000 in
set_option maxHeartbeats 8000000 in
theorem long_any (X Y : Nat) (ao bo : Option Addr) (ac bc : Nat) (w : World) (hx : NS w ao ac (lh X)) (hy : NS w bo bc (lh Y)) (hm2 : 2 ≤ (lh Y).length) (hnm : (lh Y).length ≤ (lh X).length) (hn : (lh X).length ≤ 4398046511104) :
    Calls Tryz.prog 111 #[.slice ao (lh X).length ac, .slice bo (lh Y).length bc] w fun e w' => ∃ qo qc ro rc, e = .returned (.tuple #[.slice qo (lh (X / Y)).length qc, .slice ro (lh (X % Y)).length rc]) ∧ NS w' qo qc (lh (X / Y)) ∧ NS w' ro rc (lh (X % Y)) ∧ Frs w.heap.size qo ∧ Frs w.heap.size ro ∧ Below w.heap.size w w' := by
  have hXl := lh_lt X
  have hYl := lh_lt Y
  have htop := lh_topd (Y := Y) (by omega)
  have hXm := lh_lm X
  have hYm := lh_lm Y
  have hXv := vh_lh X
  have hYv := vh_lh Y
  have hyd := lh_dg Y ((lh Y).length - 1)
  obtain ⟨sc, esc, sc1, sc2, hVl, hVg, hYg⟩ := long_facts hm2 hYl htop
  have ct1 := fun W h => timesd_any (lh X) ao ac sc ((lh X).length + 1) W h hXm (by omega) (by omega)
  have ct2 := fun W h => timesd_any (lh Y) bo bc sc (lh Y).length W h hYm (by omega) (by omega)
  rw [hXv] at ct1
  rw [hYv] at ct2
  have hdl := dg_lt Y ((lh Y).length - 1)
  rcases hy.1 with h | ⟨b, off, rfl, hcy⟩
  · omega
  have hcell := hcy ((lh Y).length - 1) (by omega)
  rw [hyd] at hcell
  clear hcy hyd hXm hYm hXv hYv
  obtain ⟨n, en⟩ : ∃ n, (lh X).length = n := ⟨_, rfl⟩
  obtain ⟨m, em⟩ : ∃ m, (lh Y).length = m := ⟨_, rfl⟩
  rw [en] at ct1 hXl hn hnm ⊢
  rw [em] at ct2 hYl hm2 hnm hdl hVl hVg hYg htop esc hcell ⊢
  obtain ⟨yt, eyt⟩ : ∃ yt, dg Y (m - 1) = yt := ⟨_, rfl⟩
  rw [eyt] at esc htop hdl hcell
  have hSX : sc * X < wt (n + 1) := by
    rw [wt_succ]
    have := Nat.mul_lt_mul_of_le_of_lt (show sc ≤ 4294967296 by omega) hXl (by omega)
    rw [Nat.mul_comm 4294967296] at this
    exact this
  have hst : sc * X < sc * Y * wt (n - m + 1) := by
    have a : sc * X < sc * wt n := Nat.mul_lt_mul_of_pos_left hXl (by omega)
    have c : wt n = wt (m - 1) * wt (n - m + 1) := by rw [← wt_add]; congr 1; omega
    have d : sc * (wt (m - 1) * wt (n - m + 1)) ≤ sc * Y * wt (n - m + 1) := by
      rw [← Nat.mul_assoc]
      exact Nat.mul_le_mul_right _ (Nat.mul_le_mul_left _ hYg)
    rw [c] at a
    omega
  have HQ : Hid (sc * X / (sc * Y) = X / Y) := Nat.mul_div_mul_left _ _ (by omega)
  have HR : Hid (sc * X % (sc * Y) / sc = X % Y) := (show _ = _ by rw [Nat.mul_mod_mul_left, Nat.mul_div_cancel_left _ (by omega)])
  obtain ⟨S, eS⟩ : ∃ S, sc * X = S := ⟨_, rfl⟩
  obtain ⟨V, eV⟩ : ∃ V, sc * Y = V := ⟨_, rfl⟩
  rw [eS] at ct1 hSX hst HQ HR
  rw [eV] at ct2 hVl hVg hst HQ HR
  rw [show ((n + 1 : Nat) : Int) = (n : Int) + 1 by omega] at ct1
  have hmk := fun W => run_make_row' (P := Tryz.prog) 22 46 (.int .u64 0) 8 Tryz.underlying22 Tryz.infoU rfl .i64 .i64 (n - m + 1) (by omega) (by omega) W
  simp only [show ((n - m + 1 : Nat) : Int) = (n : Int) - (m : Int) + 1 by omega] at hmk
  have i1 : (m : Int) - 1 < (m : Int) := by omega
  have i2 : (0 : Int) ≤ (m : Int) - 1 := by omega
  have i3 : ((m : Int) - 1).toNat = m - 1 := by omega
  have esc' : (4294967296 : Int) / ((yt : Int) + 1) = (sc : Int) := by rw [← esc]; rfl
  have hyt : ¬ ((yt : Int) + 1 = 0) := by omega
  go_enter Tryz.func111, Tryz.ntmps111
  go_upto_region 2 with fail
  rw [esc']
  clear esc' hyt i1 i2 i3 hcell htop hdl esc hYl hXl
  go_upto_region 3 with (go_at_call 129; refine (ct1 _ hx).mono ?_; rintro e w1 ⟨rfl, hu, b1⟩)
  go_upto_region 4 with (go_at_call 129; refine (ct2 _ (hy.below b1)).mono ?_; rintro e w2 ⟨rfl, hv, b2⟩)
  have hmade := FRow.made w2 (n - m + 1)
  have b3 : Below w2.heap.size w2 (w2.alloc (.cells (madeCells #[.int .u64 0] (n - m + 1)) 46)) := (Below.refl _ _).alloc (Nat.le_refl _) _
  have lu1 : w.heap.size < w1.heap.size := World.block_lt_of_cell? w1 ⟨w.heap.size, 0, none⟩ (World.rowIs.cell hu (show 0 < n + 1 by omega))
  have lv1 : w1.heap.size < w2.heap.size := World.block_lt_of_cell? w2 ⟨w1.heap.size, 0, none⟩ (World.rowIs.cell hv (show 0 < m by omega))
  have hls : lf S V (n - m + 1) = S := Nat.mod_eq_of_lt hst
  have hSd : ∀ j, n - m + 1 ≤ j → dg (S / V) j = 0 := fun j hj => dg_over (m := n - m + 1) (Nat.div_lt_of_lt_mul hst) hj
  have L0 : LgS w (w2.alloc (.cells (madeCells #[.int .u64 0] (n - m + 1)) 46)) w.heap.size w1.heap.size w2.heap.size n m S V (n - m + 1) :=
    ⟨by rw [hls]; exact World.rowIs.of_block (World.rowIs.of_block hu (b2.block _ lu1)) (b3.block _ (by omega)), World.rowIs.of_block hv (b3.block _ lv1), hmade.congr (fun j hj => by rw [if_neg (by omega)]), by simp; omega, by simp; omega, by simp, (b1.trans (b2.mono b1.size)).trans (b3.mono (Nat.le_trans b1.size b2.size))⟩
  have hgv : w1.heap.size ≠ w.heap.size := by omega
  have hgo : w2.heap.size ≠ w.heap.size := by omega
  have hgo2 : w2.heap.size ≠ w1.heap.size := by omega
  have hgl : w.heap.size ≤ w2.heap.size := by omega
  clear hmade b3 hu hv b1 b2 ct1 ct2 hls hx hy
  go_upto_region 6 with fail
  clear hmk
  generalize w2.alloc (.cells (madeCells #[.int .u64 0] (n - m + 1)) 46) = W2 at *
  generalize w1.heap.size = gv at *
  generalize w2.heap.size = go at *
  have hV0 : 0 < V := Nat.lt_of_lt_of_le (wt_pos _) hVg
  clear lu1 lv1
  go_loopg [10] (n - m + 1) (fun gg ii wr => ∃ k : Nat, k ≤ n - m + 1 ∧ gg = k ∧ ii = .int .i64 ((k : Int) - 1) ∧ LgS w wr w.heap.size gv go n m S V k)
  case atStart => exact ⟨n - m + 1, Nat.le_refl _, rfl, by go_num, L0⟩
  case round =>
    obtain ⟨k, hk, hgk, rfl, hS⟩ := hrel
    clear L0
    by_cases h0 : k = 0
    · subst h0
      have hu := hS.u
      rw [lf_zero] at hu
      have hR := Nat.mod_lt S hV0
      have hQl : S / V < wt (n - m + 1) := Nat.div_lt_of_lt_mul hst
      have hRl : S % V < wt (n + 1) := Nat.lt_trans hR (Nat.lt_of_lt_of_le hVl (Nat.pow_le_pow_right (by omega) (by omega)))
      have hnu := FRow.ns (V := S % V) hu (fun _ _ => rfl)
      have hno := FRow.ns (V := S / V) hS.o (fun j _ => if_pos (Nat.zero_le j))
      have l1 : (th (n + 1) (S % V)).length = n + 1 := th_length _ _
      have l2 : (th (n - m + 1) (S / V)).length = n - m + 1 := th_length _ _
      have ca := low_any (th (n + 1) (S % V)) _ _ wr hnu (th_lm _ _) (by rw [l1]; omega)
      rw [l1, vh_th', Nat.mod_eq_of_lt hRl] at ca
      have cb := fun W h => low_any (th (n - m + 1) (S / V)) (some ⟨go, 0, none⟩) (n - m + 1) W h (th_lm _ _) (by rw [l2]; omega)
      rw [l2, vh_th', Nat.mod_eq_of_lt hQl] at cb
      have hRn : (lh (S % V)).length ≤ n + 1 := by rw [lh_length]; exact nh_le hRl
      have cc := fun ao cap W h => short_any (lh (S % V)) ao cap sc W h (lh_lm _) (by omega) (by omega) (by omega)
      rw [vh_lh, HR.out] at cc
      rw [HQ.out] at cb hno
      have hb := hS.b
      have hlo := hS.lo
      clear hQl hRl hR hnu hu hS hst hSd
      go_upto_region 14 with first | (go_at_call 128; refine ca.mono ?_; rintro e w5 ⟨rfl, h3, rfl⟩) | (go_at_call 109; refine (cc _ _ _ h3).mono ?_; rintro e w6 ⟨ro, rc, rfl, h6, f6, b6⟩)
      have hno6 := hno.below b6
      go_wp2_with (go_at_call 128; refine (cb _ hno6).mono ?_; rintro e w7 ⟨rfl, h7, rfl⟩)
      go_ret2
      exact ⟨_, _, _, _, rfl, h7, h6, fun a ha => (by cases ha; exact hgl), fun a ha => Nat.le_trans hb.size (f6 a ha), hb.trans (b6.mono hb.size)⟩
    · obtain ⟨i, rfl⟩ : ∃ i, k = i + 1 := ⟨k - 1, by omega⟩
      have e1 : ((i + 1 : Nat) : Int) - 1 = (i : Int) := by omega
      rw [e1]
      have hU : lf S V (i + 1) < wt (i + (m + 1)) := by
        have a := lf_lt (S := S) (k := i + 1) hV0
        have c : V * wt (i + 1) < wt m * wt (i + 1) := Nat.mul_lt_mul_of_pos_right hVl (wt_pos _)
        rw [← wt_add] at c
        rw [show i + (m + 1) = m + (i + 1) by omega]
        omega
      have hDg := lf_digit (S := S) (V := V) (i := i)
      have hNx := lf_next (S := S) (V := V) (i := i)
      have hdl := dg_lt (S / V) i
      obtain ⟨U, eU⟩ : ∃ U, lf S V (i + 1) = U := ⟨_, rfl⟩
      have hu := hS.u
      rw [eU] at hU hDg hNx hu
      obtain ⟨d, ed⟩ : ∃ d, dg (S / V) i = d := ⟨_, rfl⟩
      rw [ed] at hDg hNx hdl
      have c1 : wr.cell? ⟨w.heap.size, i + m, none⟩ = some (.int .u64 ((dg U (i + m) : Nat) : Int)) := World.rowIs.cell hu (by omega)
      have c2 : wr.cell? ⟨w.heap.size, i + m - 1, none⟩ = some (.int .u64 ((dg U (i + m - 1) : Nat) : Int)) := World.rowIs.cell hu (by omega)
      have c3 : wr.cell? ⟨gv, m - 1, none⟩ = some (.int .u64 ((dg V (m - 1) : Nat) : Int)) := World.rowIs.cell hS.v (by omega)
      have ht2 := topd_two (U := U) (j := i + m - 1) (by rw [show i + m - 1 + 2 = i + (m + 1) by omega]; exact hU)
      rw [show i + m - 1 + 1 = i + m by omega] at ht2
      have hvt : dg V (m - 1) = V / wt (m - 1) := by
        unfold dg
        rw [Nat.mod_eq_of_lt]
        apply Nat.div_lt_of_lt_mul
        rw [← wt_succ, show m - 1 + 1 = m by omega]
        exact hVl
      have hvp : 0 < dg V (m - 1) := by rw [hvt]; exact Nat.div_pos hVg (wt_pos _)
      have hgs := guess_ok (U := U) (V := V) (vt := dg V (m - 1)) (m := m) (i := i) (by rw [hvt]; exact Nat.div_mul_le_self _ _) hvp
      rw [hDg, show i + (m - 1) = i + m - 1 by omega, ← ht2] at hgs
      have hd1 := dg_lt U (i + m)
      have hd2 := dg_lt U (i + m - 1)
      have hd3 := dg_lt V (m - 1)
      obtain ⟨a, ea⟩ : ∃ a, dg U (i + m) = a := ⟨_, rfl⟩
      obtain ⟨c, ec⟩ : ∃ c, dg U (i + m - 1) = c := ⟨_, rfl⟩
      obtain ⟨vt, evt⟩ : ∃ vt, dg V (m - 1) = vt := ⟨_, rfl⟩
      rw [ea] at c1 hgs hd1
      rw [ec] at c2 hgs hd2
      rw [evt] at c3 hgs hd3 hvp
      have hz : (((a * 4294967296 + c) / vt : Nat) : Int) = ((a : Int) * 4294967296 + (c : Int)) / (vt : Int) := by rw [Int.natCast_ediv, Int.natCast_add, Int.natCast_mul]; rfl
      obtain ⟨z, ez⟩ : ∃ z, (a * 4294967296 + c) / vt = z := ⟨_, rfl⟩
      rw [ez] at hz hgs
      obtain ⟨q0, eq0⟩ : ∃ q0, min z 4294967295 = q0 := ⟨_, rfl⟩
      have hq0 : d ≤ q0 ∧ q0 ≤ 4294967295 := by
        rw [← eq0]
        exact ⟨Nat.le_min.2 ⟨hgs, Nat.le_of_lt_succ hdl⟩, Nat.min_le_right _ _⟩
      have hmin : min (((a : Int) * 4294967296 + (c : Int)) / (vt : Int)) 4294967295 = (q0 : Int) := by
        rw [← hz, ← eq0]
        exact min_cast7 z
      clear hz ez
      have hmn := fun ts t W => minU7 (P := Tryz.prog) hmin ts t W
      clear hgs eq0 ht2 hvt ea ec evt hmin
      have i1 : (i : Int) + (m : Int) < (n : Int) + 1 := by omega
      have i1n : i + m < n + 1 := by omega
      have i2 : (0 : Int) ≤ (i : Int) + (m : Int) := by omega
      have i3 : ((i : Int) + (m : Int)).toNat = i + m := by omega
      have i4 : (i : Int) + (m : Int) - 1 < (n : Int) + 1 := by omega
      have i5 : (0 : Int) ≤ (i : Int) + (m : Int) - 1 := by omega
      have i6 : ((i : Int) + (m : Int) - 1).toNat = i + m - 1 := by omega
      have i7 : (m : Int) - 1 < (m : Int) := by omega
      have i8 : (0 : Int) ≤ (m : Int) - 1 := by omega
      have i9 : ((m : Int) - 1).toNat = m - 1 := by omega
      have w1 : IntKind.i64.wrap ((i : Int) + (m : Int)) = (i : Int) + (m : Int) := by rw [IntKind.wrap_i64]; omega
      have w2 : IntKind.i64.wrap ((i : Int) + (m : Int) - 1) = (i : Int) + (m : Int) - 1 := by rw [IntKind.wrap_i64]; omega
      have w3 : IntKind.i64.wrap ((m : Int) - 1) = (m : Int) - 1 := by rw [IntKind.wrap_i64]; omega
      have w4 : IntKind.u64.wrap ((a : Int) * 4294967296) = (a : Int) * 4294967296 := by rw [IntKind.wrap_u64]; omega
      have w5 : IntKind.u64.wrap ((a : Int) * 4294967296 + (c : Int)) = (a : Int) * 4294967296 + (c : Int) := by rw [IntKind.wrap_u64]; omega
      have hvz : ¬ ((vt : Int) = 0) := by omega
      go_upto_region 8 with fail
      go_quiet (fail)
      have hS3 : LgS w (wr.drewN nq) w.heap.size gv go n m S V (i + 1) := hS.later (quietB nq)
      clear c1 c2
      have c4 : (wr.drewN nq).cell? ⟨gv, m - 1, none⟩ = some (.int .u64 (vt : Int)) := c3
      clear hS c3 hu
      go_upto_region 10 with fail
      clear c4 hmn
      generalize wr.drewN nq = W3 at *
      have cy : ∀ W, LgS w W w.heap.size gv go n m S V (i + 1) → Calls Tryz.prog 130 #[.slice (some ⟨w.heap.size, 0, none⟩) (n + 1) (n + 1), .int .i64 i, .slice (some ⟨gv, 0, none⟩) m m, .int .u64 d] W fun e w' => e = .returned (.bool true) ∧ FRow w' w.heap.size (n + 1) (dg (lf S V i)) ∧ KeepG w.heap.size W w' := by
        intro W h
        have hh := h.u
        rw [eU] at hh
        have c := less_yes U w.heap.size (n + 1) (n + 1) i (th m V) (some ⟨gv, 0, none⟩) m d W hh h.lu h.ns (th_lm _ _) (by omega) (by rw [th_length]; exact hU) (by rw [th_length]; exact i1n) (by omega) (by rw [vh_th', Nat.mod_eq_of_lt hVl, ← hDg]; exact Nat.div_mul_le_self _ _)
        rw [th_length, vh_th', Nat.mod_eq_of_lt hVl, hNx] at c
        exact c
      have cn : ∀ W q, d < q → q ≤ 4294967295 → LgS w W w.heap.size gv go n m S V (i + 1) → Calls Tryz.prog 130 #[.slice (some ⟨w.heap.size, 0, none⟩) (n + 1) (n + 1), .int .i64 i, .slice (some ⟨gv, 0, none⟩) m m, .int .u64 q] W fun e w' => e = .returned (.bool false) ∧ Below W.heap.size W w' := by
        intro W q h1 h2 h
        have hh := h.u
        rw [eU] at hh
        have c := less_no U w.heap.size (n + 1) (n + 1) i (th m V) (some ⟨gv, 0, none⟩) m q W hh h.lu h.ns (th_lm _ _) h2 (by rw [th_length]; exact hU) (by rw [th_length]; exact i1n) (by omega) (by
          rw [th_length, vh_th', Nat.mod_eq_of_lt hVl, wt_succ, Nat.mul_comm (wt m)]
          exact Nat.mul_lt_mul_of_le_of_lt (by omega) hVl (by omega)) (by rw [vh_th', Nat.mod_eq_of_lt hVl]; exact digit_big hV0 hDg h1)
        rw [th_length] at c
        exact c
      clear hDg hNx hU eU i1 i1n i2 i3 i4 i5 i6 i7 i8 i9 w1 w2 w3 w4 w5 hvz hd1 hd2 hd3 hvp
      go_loopg [12] (q0 - d) (fun gg qq wq => ∃ q : Nat, d ≤ q ∧ q ≤ 4294967295 ∧ gg = q - d ∧ qq = .int .u64 q ∧ LgS w wq w.heap.size gv go n m S V (i + 1))
      case atStart => exact ⟨q0, hq0.1, hq0.2, rfl, rfl, hS3⟩
      case round =>
        obtain ⟨q, hdq, hq, hgq, rfl, hSq⟩ := hrel
        clear hS3
        by_cases hqd : q = d
        · subst hqd
          go_upto_region 12 with (go_at_call 130; refine (cy _ hSq).mono ?_; rintro e w5 ⟨rfl, hu5, k5⟩)
          have ho5 := k5.frow hSq.o hgo hSq.lo
          have c5 : w5.cell? ⟨go, i, none⟩ = some (.int .u64 ((if i + 1 ≤ i then dg (S / V) i else 0 : Nat) : Int)) := World.rowIs.cell ho5 (by omega)
          have c6 := World.rowIs.frozen ho5 i
          have hNew := hSq.took hu5 k5 hgv hgo hgo2 hgl (q : Int) (by rw [ed])
          have j1 : (i : Int) < ((n - m + 1 : Nat) : Int) := by omega
          have j2 : i < n - m + 1 := by omega
          have j3 : (i : Int) < (n : Int) - (m : Int) + 1 := by omega
          clear ho5 hu5 k5 hSq cy cn
          go_upto_region 7 with fail
          clear c5 c6
          go_wp2
          go_roundg i
          case measure => omega
          case rel => exact ⟨i, by omega, rfl, by go_num, hNew⟩
        · have cq := fun W h => cn W q (by omega) hq h
          go_upto_region 11 with (go_at_call 130; refine (cq _ hSq).mono ?_; rintro e w5 ⟨rfl, b5⟩)
          go_wp2
          go_roundg (q - 1 - d)
          case measure => omega
          case rel => exact ⟨q - 1, by omega, by omega, rfl, by go_num, hSq.later b5⟩
end Go.Proofs.YtnclddfljghebaaGreatDoor

namespace Go.Proofs.YtnclddfljghebaaGreatDoor
open Go.RowKit

/-- Two numbers handed back. -/
def GaveNN (w : World) (q r : Nat) (e : Ending) (w' : World) : Prop := ∃ qo qc ro rc, e = .returned (.tuple #[.slice qo (lo q).length qc, .slice ro (lo r).length rc]) ∧ NS w' qo qc (lo q) ∧ NS w' ro rc (lo r) ∧ Below w.heap.size w w'
theorem lh_ge {Y : Nat} (h : 1 ≤ (lh Y).length) : wt ((lh Y).length - 1) ≤ Y := by
  have h0 : Y ≠ 0 := fun e => by subst e; rw [show (lh 0).length = 0 from rfl] at h; omega
  have hl := lh_length Y
  unfold nh at hl
  have hb := (bl_spec h0).1
  exact Nat.le_trans (Nat.pow_le_pow_right (by omega) (by omega)) hb
theorem lh_pos {Y : Nat} (h : Y ≠ 0) : 1 ≤ (lh Y).length := by
  have := lh_lt Y
  rcases Nat.lt_or_ge 0 (lh Y).length with c | c
  · exact c
  · rw [show (lh Y).length = 0 by omega, wt_zero] at this
    omega
theorem lh_less {X Y : Nat} (h : (lh X).length < (lh Y).length) : X < Y := by
  have h1 := lh_lt X
  have h2 := lh_ge (Y := Y) (by omega)
  have h3 : wt (lh X).length ≤ wt ((lh Y).length - 1) := wt_mono (by omega)
  omega
theorem lh_mono {X Y : Nat} (h : X ≤ Y) : (lh X).length ≤ (lh Y).length := by
  rw [lh_length]
  exact nh_le (Nat.lt_of_le_of_lt h (lh_lt Y))
theorem NS.first {w : World} {ao : Option Addr} {cap : Nat} {xs : List Nat} (h : NS w ao cap xs) (h0 : 0 < xs.length) : ∃ b off, ao = some ⟨b, off, none⟩ ∧ w.cell? ⟨b, off, none⟩ = some (.int .u64 (xs.getD 0 0 : Nat)) := by
  rcases h.1 with c | ⟨b, off, e, hc⟩
  · omega
  · exact ⟨b, off, e, hc 0 h0⟩
set_option maxHeartbeats 2000000 in
theorem natDiv_any (xs ys : List Nat) (ao bo : Option Addr) (cap bcap : Nat) (w : World) (hr : NS w ao cap xs) (hs : NS w bo bcap ys) (hL : Lm xs) (hM : Lm ys) (hn : xs.length ≤ 1099511627776) (hm : ys.length ≤ 1099511627776) (h0 : vl ys ≠ 0) :
    Calls Tryz.prog 84 #[.slice ao xs.length cap, .slice bo ys.length bcap] w (GaveNN w (vl xs / vl ys) (vl xs % vl ys)) := by
  have hT := halves_any xs ao cap w hr hL (by omega)
  have hU := fun w1 (hb : Below w.heap.size w w1) => halves_any ys bo bcap w1 (hs.below hb) hM (by omega)
  have hN := fun w1 (hb : Below w.heap.size w w1) => natTrim_any xs ao cap w1 (hr.below hb) hL (by omega)
  have l1 := digits_len hL
  have l2 := digits_len hM
  obtain ⟨A, ha⟩ : ∃ A, vl xs = A := ⟨_, rfl⟩
  obtain ⟨Y, hy⟩ : ∃ Y, vl ys = Y := ⟨_, rfl⟩
  rw [ha] at hT hN l1 ⊢
  rw [hy] at hU l2 h0 ⊢
  have p1 := lh_pos h0
  have mq := lh_mono (Nat.div_le_self A Y)
  have mr := lh_mono (Nat.mod_le A Y)
  have HQ : (lh A).length < (lh Y).length → A / Y = 0 ∧ A % Y = A := fun h => ⟨Nat.div_eq_of_lt (lh_less h), Nat.mod_eq_of_lt (lh_less h)⟩
  have HS : (lh Y).length = 1 → (lh Y).getD 0 0 = Y ∧ Y ≤ 4294967296 := fun h => by
    have hl := lh_lt Y
    rw [h, show wt 1 = 4294967296 from rfl] at hl
    refine ⟨?_, by omega⟩
    rw [lh_dg]
    unfold dg
    rw [wt_zero, Nat.div_one, Nat.mod_eq_of_lt hl]
  have cS := fun ao1 cap1 w1 h1 (hY : Y ≤ 4294967296) => short_any (lh A) ao1 cap1 Y w1 h1 (lh_lm A) (by omega) (by omega) hY
  rw [vh_lh] at cS
  have cL := fun ao1 bo1 ac1 bc1 w1 h1 h2 (h3 : 2 ≤ (lh Y).length) (h4 : (lh Y).length ≤ (lh A).length) => long_any A Y ao1 bo1 ac1 bc1 w1 h1 h2 h3 h4 (by omega)
  have cE := fun x ao1 cap1 w1 h1 (hx : (lh x).length ≤ (lh A).length) => limbs_any (lh x) ao1 cap1 w1 h1 (lh_lm x) (by omega)
  simp only [vh_lh] at cE
  have cO := fun x (hx : x < 18446744073709551616) w1 => natOf_any x hx w1
  have hrl : A % Y < Y := Nat.mod_lt _ (Nat.pos_of_ne_zero h0)
  obtain ⟨Q, hQ⟩ : ∃ Q, A / Y = Q := ⟨_, rfl⟩
  obtain ⟨R, hR⟩ : ∃ R, A % Y = R := ⟨_, rfl⟩
  rw [hQ] at mq HQ cS cL ⊢
  rw [hR] at mr hrl HQ cS cL ⊢
  clear ha hy hL hM hn hm hQ hR hr hs l1 l2
  go_enter Tryz.func84, Tryz.ntmps84
  by_cases c1 : (lh A).length < (lh Y).length
  · obtain ⟨rfl, rfl⟩ := HQ c1
    have c1' : ((lh R).length : Int) < ((lh Y).length : Int) := by omega
    clear HQ HS cS cL cE cO
    go_wp2_with (first
      | (go_at_call_of 108 (Value.slice ao xs.length cap); refine hT.mono ?_; rintro e w1 ⟨ao1, cap1, rfl, h1, f1, b1⟩)
      | (go_at_call_of 108 (Value.slice bo ys.length bcap); refine (hU _ b1).mono ?_; rintro e w2 ⟨ao2, cap2, rfl, h2, f2, b2⟩; have b3 := b1.trans (b2.mono b1.size))
      | (go_at_call 41; refine (hN _ b3).mono ?_; rintro e w3 ⟨ao3, cap3, rfl, h3, f3, b4⟩))
    go_ret2
    exact ⟨none, 0, ao3, cap3, rfl, NS.nil _, h3, b3.trans (b4.mono b3.size)⟩
  · have c1' : ¬ ((lh A).length : Int) < ((lh Y).length : Int) := by omega
    by_cases c2 : (lh Y).length = 1
    · obtain ⟨g1, g2⟩ := HS c2
      have cS' := fun ao1 cap1 w1 h1 => cS ao1 cap1 w1 h1 g2
      have cO' := cO R (by omega)
      have c2' : (((lh Y).length : Int) == 1) = true := beq_iff_eq.2 (by omega)
      have c3 : (0 : Int) < ((lh Y).length : Int) := by omega
      clear HQ HS cS cL cO hN
      go_wp2_with (first
        | (go_at_call_of 108 (Value.slice ao xs.length cap); refine hT.mono ?_; rintro e w1 ⟨ao1, cap1, rfl, h1, f1, b1⟩)
        | (go_at_call_of 108 (Value.slice bo ys.length bcap); refine (hU _ b1).mono ?_; rintro e w2 ⟨ao2, cap2, rfl, h2, f2, b2⟩; have b3 := b1.trans (b2.mono b1.size); have h1' := h1.below b2; obtain ⟨bb, off, rfl, hcell⟩ := h2.first p1; rw [g1] at hcell)
        | (go_at_call 109; refine (cS' _ _ _ h1').mono ?_; rintro e w3 ⟨ao3, cap3, rfl, h3, f3, b4⟩; have b5 := b3.trans (b4.mono b3.size))
        | (go_at_call 110; refine (cE _ _ _ _ h3 mq).mono ?_; rintro e w4 ⟨ao4, cap4, rfl, h4, f4, b6⟩; have b7 := b5.trans (b6.mono b5.size))
        | (go_at_call 88; refine (cO' _).mono ?_; rintro e w5 ⟨ao5, cap5, rfl, h5, f5, b8⟩))
      go_ret2
      exact ⟨_, _, _, _, rfl, h4.below b8, h5, b7.trans (b8.mono b7.size)⟩
    · have c2' : (((lh Y).length : Int) == 1) = false := by rw [beq_eq_false_iff_ne]; omega
      have cL' := fun ao1 bo1 ac1 bc1 w1 h1 h2 => cL ao1 bo1 ac1 bc1 w1 h1 h2 (by omega) (by omega)
      clear HQ HS cS cL cO hN
      go_wp2_with (first
        | (go_at_call_of 108 (Value.slice ao xs.length cap); refine hT.mono ?_; rintro e w1 ⟨ao1, cap1, rfl, h1, f1, b1⟩)
        | (go_at_call_of 108 (Value.slice bo ys.length bcap); refine (hU _ b1).mono ?_; rintro e w2 ⟨ao2, cap2, rfl, h2, f2, b2⟩; have b3 := b1.trans (b2.mono b1.size); have h1' := h1.below b2)
        | (go_at_call 111; refine (cL' _ _ _ _ _ h1' h2).mono ?_; rintro e w3 ⟨ao3, cap3, bo3, bc3, rfl, h3, k3, f3, g3, b4⟩; have b5 := b3.trans (b4.mono b3.size))
        | (go_at_call_of 110 (Value.slice ao3 (lh Q).length cap3); refine (cE _ _ _ _ h3 mq).mono ?_; rintro e w4 ⟨ao4, cap4, rfl, h4, f4, b6⟩; have b7 := b5.trans (b6.mono b5.size); have k4 := k3.below b6)
        | (go_at_call_of 110 (Value.slice bo3 (lh R).length bc3); refine (cE _ _ _ _ k4 mr).mono ?_; rintro e w5 ⟨ao5, cap5, rfl, h5, f5, b8⟩))
      go_ret2
      exact ⟨_, _, _, _, rfl, h4.below b8, h5, b7.trans (b8.mono b7.size)⟩
end Go.Proofs.YtnclddfljghebaaGreatDoor

namespace Go.Proofs.YtnclddfljghebaaGreatDoor
open Go.RowKit

theorem lo_mono {X Y : Nat} (h : X ≤ Y) : (lo X).length ≤ (lo Y).length := by rw [lo_length, lo_length]; exact nl_mono h
theorem lo_pos {Y : Nat} (h : Y ≠ 0) : 0 < (lo Y).length := by
  rcases Nat.lt_or_ge 0 (lo Y).length with c | c
  · exact c
  · exfalso
    have h1 : lo Y = [] := List.eq_nil_of_length_eq_zero (by omega)
    have := vl_lo Y
    rw [h1] at this
    exact h this.symm
set_option maxHeartbeats 2000000 in
theorem natGcd_any (xs ys : List Nat) (ao bo : Option Addr) (cap bcap : Nat) (w : World) (hr : NS w ao cap xs) (hs : NS w bo bcap ys) (hL : Lm xs) (hM : Lm ys) (hn : xs.length ≤ 1099511627776) (hm : ys.length ≤ 1099511627776) :
    Calls Tryz.prog 49 #[.slice ao xs.length cap, .slice bo ys.length bcap] w fun e w' => ∃ qo qc, e = .returned (.slice qo (lo (Nat.gcd (vl xs) (vl ys))).length qc) ∧ NS w' qo qc (lo (Nat.gcd (vl xs) (vl ys))) ∧ Below w.heap.size w w' := by
  have hT := natTrim_any xs ao cap w hr hL (by omega)
  have hU := fun w1 (hb : Below w.heap.size w w1) => natTrim_any ys bo bcap w1 (hs.below hb) hM (by omega)
  have l1 := lo_len hL
  have l2 := lo_len hM
  obtain ⟨A, ha⟩ : ∃ A, vl xs = A := ⟨_, rfl⟩
  obtain ⟨Y, hy⟩ : ∃ Y, vl ys = Y := ⟨_, rfl⟩
  rw [ha] at hT l1 ⊢
  rw [hy] at hU l2 ⊢
  have cD := fun X Y xo yo xc yc W (h1 : NS W xo xc (lo X)) (h2 : NS W yo yc (lo Y)) (hX : (lo X).length ≤ 1099511627776) (hY : (lo Y).length ≤ 1099511627776) (h0 : Y ≠ 0) => natDiv_any (lo X) (lo Y) xo yo xc yc W h1 h2 (lo_lm X) (lo_lm Y) hX hY (by rw [vl_lo]; exact h0)
  simp only [vl_lo] at cD
  have k1 : (lo A).length ≤ 1099511627776 := by omega
  have k2 : (lo Y).length ≤ 1099511627776 := by omega
  clear ha hy hL hM hn hm l1 l2
  obtain ⟨G, hG⟩ : ∃ G, Nat.gcd A Y = G := ⟨_, rfl⟩
  rw [hG]
  have HG : Hid (Nat.gcd A Y = G) := hG
  clear hG
  go_enter Tryz.func49, Tryz.ntmps49
  go_upto_region 2 with (first
    | (go_at_call_of 41 (Value.slice ao xs.length cap); refine hT.mono ?_; rintro e w1 ⟨ao1, cap1, rfl, h1, f1, b1⟩)
    | (go_at_call_of 41 (Value.slice bo ys.length bcap); refine (hU _ b1).mono ?_; rintro e w2 ⟨ao2, cap2, rfl, h2, f2, b2⟩; have b3 := b1.trans (b2.mono b1.size); have h1' := h1.below b2))
  go_loopg [5, 6] Y (fun g u v wr => ∃ (X Z : Nat) (xo : Option Addr) (xc : Nat) (yo : Option Addr) (yc : Nat), u = .slice xo (lo X).length xc ∧ v = .slice yo (lo Z).length yc ∧ g = Z ∧ NS wr xo xc (lo X) ∧ NS wr yo yc (lo Z) ∧ Hid (Nat.gcd X Z = G) ∧ (lo X).length ≤ 1099511627776 ∧ (lo Z).length ≤ 1099511627776 ∧ Below w.heap.size w wr)
  case atStart => exact ⟨A, Y, ao1, cap1, ao2, cap2, rfl, rfl, rfl, h1', h2, HG, k1, k2, b3⟩
  case round =>
    obtain ⟨X, Z, xo, xc, yo, yc, rfl, rfl, hg, hx, hz, hG, m1, m2, hb⟩ := hrel
    clear h1 h1' h2 HG k1 k2 b3 b1 b2 hT hU
    by_cases h0 : Z = 0
    · subst h0
      have e0 : (lo 0).length = 0 := rfl
      have eX : X = G := by have := hG.out; rwa [Nat.gcd_zero_right] at this
      subst eX
      clear hG
      go_wp2
      go_ret
      exact ⟨_, _, rfl, hx, hb⟩
    · have hp := lo_pos h0
      have hp' : (0 : Int) < ((lo Z).length : Int) := by omega
      have hc := cD X Z xo yo xc yc wr hx hz m1 m2 h0
      have hlt : X % Z < Z := Nat.mod_lt _ (Nat.pos_of_ne_zero h0)
      have ml : (lo (X % Z)).length ≤ 1099511627776 := Nat.le_trans (lo_mono (Nat.le_of_lt hlt)) m2
      have hG2 : Hid (Nat.gcd Z (X % Z) = G) := (show _ = _ by rw [← hG.out, Nat.gcd_comm X Z, Nat.gcd_rec Z X, Nat.gcd_comm])
      obtain ⟨R, hR⟩ : ∃ R, X % Z = R := ⟨_, rfl⟩
      rw [hR] at hc hlt ml hG2
      clear hR hG cD
      go_wp2_with (go_at_call 84; refine hc.mono ?_; rintro e w3 ⟨qo, qc, ro, rc, rfl, h3, h4, b4⟩)
      go_roundg R
      case measure => omega
      case rel => exact ⟨Z, R, yo, yc, ro, rc, rfl, rfl, rfl, hz.below b4, h4, hG2, m2, ml, hb.trans (b4.mono hb.size)⟩
end Go.Proofs.YtnclddfljghebaaGreatDoor
