/- What the reference's long answers: a number over another of two digits or more. -/
import Derived.Test.YtnclddfljghebaaGreatDoorZn
import Derived.Deep.CutBlock
namespace Go.Proofs.YtnclddfljghebaaGreatDoor
open Go.RowKit

theorem wt_pos' (i : Nat) : 0 < wt i := Nat.two_pow_pos _
theorem off_div {U P i : Nat} (h : P ≤ U / wt i) : (U - P * wt i) / wt i = U / wt i - P := by
  have hw := wt_pos' i
  have e1 := Nat.div_add_mod U (wt i)
  have e2 : U - P * wt i = U % wt i + wt i * (U / wt i - P) := by
    rw [Nat.mul_sub, Nat.mul_comm (wt i) P]
    have : P * wt i ≤ wt i * (U / wt i) := by rw [Nat.mul_comm]; exact Nat.mul_le_mul_left _ h
    omega
  rw [e2, Nat.add_mul_div_left _ _ hw, Nat.div_eq_of_lt (Nat.mod_lt U hw), Nat.zero_add]
/-- What is taken off from a place on changes no digit below it. -/
theorem off_digit {U P i : Nat} (h : P ≤ U / wt i) (j : Nat) : dg (U - P * wt i) j = if j < i then dg U j else dg (U / wt i - P) (j - i) := by
  have hw := wt_pos' i
  have e1 := Nat.div_add_mod U (wt i)
  have e2 : U - P * wt i = U % wt i + wt i * (U / wt i - P) := by
    rw [Nat.mul_sub, Nat.mul_comm (wt i) P]
    have : P * wt i ≤ wt i * (U / wt i) := by rw [Nat.mul_comm]; exact Nat.mul_le_mul_left _ h
    omega
  have hlt := Nat.mod_lt U hw
  split
  · rename_i c
    rw [e2, dg_low c]
    conv => rhs; rw [← e1, Nat.add_comm, dg_low c]
  · rename_i c
    have e3 : (U - P * wt i) / wt i = U / wt i - P := by
      rw [e2, Nat.add_mul_div_left _ _ hw, Nat.div_eq_of_lt hlt, Nat.zero_add]
    have e4 := dg_shift (U - P * wt i) i (j - i)
    rw [e3, show i + (j - i) = j by omega] at e4
    exact e4
/-- The guess is not below the digit. -/
theorem guess_ok {U V vt m i : Nat} (hV : vt * wt (m - 1) ≤ V) (hv : 0 < vt) : U / wt i / V ≤ U / wt (i + (m - 1)) / vt := by
  rw [wt_add, ← Nat.div_div_eq_div_mul, Nat.div_div_eq_div_mul (U / wt i), Nat.mul_comm]
  exact Nat.div_le_div_left hV (Nat.mul_pos hv (wt_pos' _))
/-- A digit that goes, the next one does not: it is the quotient's. -/
theorem digit_is {U V i q : Nat} (hV : 0 < V) (h1 : q * V ≤ U / wt i) (h2 : U / wt i / V ≤ q) : q = U / wt i / V ∧ (U - q * V * wt i) / wt i = U / wt i % V := by
  have a : q ≤ U / wt i / V := (Nat.le_div_iff_mul_le hV).2 h1
  have e : q = U / wt i / V := Nat.le_antisymm a h2
  refine ⟨e, ?_⟩
  rw [off_div h1]
  have := Nat.div_add_mod (U / wt i) V
  rw [← e, Nat.mul_comm] at this
  omega
end Go.Proofs.YtnclddfljghebaaGreatDoor

namespace Go.Proofs.YtnclddfljghebaaGreatDoor
open Go.RowKit

set_option maxHeartbeats 2000000 in
theorem timesd_any (xs : List Nat) (ao : Option Addr) (cap P n : Nat) (w : World) (hr : NS w ao cap xs) (hL : Hm xs) (hP : P ≤ 4294967295) (hn : n ≤ 17592186044416) :
    Calls Tryz.prog 129 #[.slice ao xs.length cap, .int .u64 P, .int .i64 n] w fun e w' => e = .returned (.slice (some ⟨w.heap.size, 0, none⟩) n n) ∧ FRow w' w.heap.size n (fun j => dg (P * vh xs) j) ∧ Below w.heap.size w w' := by
  have hmk := run_make_row' (P := Tryz.prog) 22 46 (.int .u64 0) 8 Tryz.underlying22 Tryz.infoU rfl .i64 .i64 n (by omega) (by omega)
  have hmade := FRow.made w n
  have hbm : Below w.heap.size w (w.alloc (.cells (madeCells #[.int .u64 0] n) 46)) := (Below.refl _ _).alloc (Nat.le_refl _) _
  obtain ⟨A, hA⟩ : ∃ A, vh xs = A := ⟨_, rfl⟩
  have hdg : ∀ i, xs.getD i 0 = dg A i := fun i => by rw [← hA]; exact dg_of hL i
  rw [hA]
  clear hA hL
  go_enter Tryz.func129, Tryz.ntmps129
  go_wp2
  clear hmk
  go_loopg [9, 8] n (fun g i u wr => ∃ k : Nat, k ≤ n ∧ g = n - k ∧ i = .int .i64 k ∧ u = .int .u64 ((cr P 0 A k : Nat) : Int) ∧ FRow wr w.heap.size n (fun j => if j < k then dg (P * A) j else 0) ∧ Below w.heap.size w wr)
  case atStart => exact ⟨0, by omega, rfl, rfl, by rw [cr_zero]; rfl, hmade.congr (fun j hj => by rw [if_neg (by omega)]), hbm⟩
  case round =>
    obtain ⟨k, hk, hg, rfl, rfl, hrow, hb⟩ := hrel
    clear hmade hbm
    by_cases hlt : k < n
    · have i1 : (k : Int) < (n : Int) := by omega
      have g2 : wr.cell? ⟨w.heap.size, k, none⟩ = some (.int .u64 ((if k < k then dg (P * A) k else 0 : Nat) : Int)) := World.rowIs.cell hrow hlt
      have g3 := World.rowIs.frozen hrow k
      rw [if_neg (by omega)] at g2
      have hcr := cr_le P 0 A k
      have hd1 := dg_lt A k
      obtain ⟨us1, us2⟩ := up_step P A k
      have hset := hrow.set k (dg (P * A) k)
      have hbs := hb.setCell (p := ⟨w.heap.size, k, none⟩) (Nat.le_refl _) (.int .u64 ((dg (P * A) k : Nat) : Int))
      have cD := digit_any xs ao cap k wr (hr.below hb).1
      rw [hdg k] at cD
      obtain ⟨d, hd⟩ : ∃ d, dg A k = d := ⟨_, rfl⟩
      obtain ⟨c, hcc⟩ : ∃ c, cr P 0 A k = c := ⟨_, rfl⟩
      rw [hd] at cD hd1 us1 us2
      rw [hcc] at hcr us1 us2 ⊢
      have HQ : Hid (((dg (P * A) k : Nat) : Int) = ((d : Int) * (P : Int) + (c : Int)) % 4294967296) := (show _ = _ by rw [← us1]; exact cast_um d P c)
      have HR : Hid (((cr P 0 A (k + 1) : Nat) : Int) = ((d : Int) * (P : Int) + (c : Int)) / 4294967296) := (show _ = _ by rw [← us2]; exact cast_uq d P c)
      obtain ⟨m1, m2⟩ := mul_bd (a := d) (b := P) (by omega) (by omega)
      have w1 : IntKind.u64.wrap ((d : Int) * (P : Int)) = (d : Int) * (P : Int) := by rw [IntKind.wrap_u64]; omega
      have w2 : IntKind.u64.wrap ((d : Int) * (P : Int) + (c : Int)) = (d : Int) * (P : Int) + (c : Int) := by rw [IntKind.wrap_u64]; omega
      rw [HQ.out] at hset hbs
      clear hd hcc us1 us2 hrow hb
      go_wp2_with (go_at_call 121; refine cD.mono ?_; rintro e w' ⟨rfl, hww⟩; subst w')
      go_roundg (n - (k + 1))
      case measure => omega
      case rel =>
        refine ⟨k + 1, by omega, rfl, by go_num, by rw [HR.out], hset.congr (fun j hj => ?_), hbs⟩
        by_cases q : j = k
        · subst q; rw [if_pos rfl, if_pos (by omega)]
        · rw [if_neg q]
          by_cases q2 : j < k
          · rw [if_pos q2, if_pos (by omega)]
          · rw [if_neg q2, if_neg (by omega)]
    · obtain rfl : k = n := by omega
      have i1 : ¬ (k : Int) < (k : Int) := by omega
      go_wp2
      go_ret
      exact ⟨rfl, hrow.congr (fun j hj => by rw [if_pos hj]), hb⟩
end Go.Proofs.YtnclddfljghebaaGreatDoor

namespace Go.Proofs.YtnclddfljghebaaGreatDoor
open Go.RowKit

/-- Of what was there nothing has turned but block g. -/
structure KeepG (g : Nat) (w w' : World) : Prop where
  os : w'.os = w.os
  tape : w'.tape = w.tape
  output : w'.output = w.output
  size : w.heap.size ≤ w'.heap.size
  block : ∀ k, k ≠ g → k < w.heap.size → w'.heap[k]? = w.heap[k]?
theorem KeepG.of_below {g : Nat} {w w' : World} (h : Below w.heap.size w w') : KeepG g w w' := ⟨h.os, h.tape, h.output, h.size, fun k _ hk => h.block k hk⟩
theorem KeepG.trans {g : Nat} {a b c : World} (h : KeepG g a b) (k : KeepG g b c) : KeepG g a c :=
  ⟨k.os.trans h.os, k.tape.trans h.tape, k.output.trans h.output, Nat.le_trans h.size k.size, fun i hi hl => (k.block i hi (Nat.lt_of_lt_of_le hl h.size)).trans (h.block i hi hl)⟩
theorem KeepG.setCell {g : Nat} {a w : World} (h : KeepG g a w) (i : Nat) (u : Value) : KeepG g a (w.setCell ⟨g, i, none⟩ u) :=
  h.trans ⟨rfl, rfl, rfl, by simp [World.setCell], fun k hk _ => Below.heap_setCell _ _ _ _ hk⟩
theorem KeepG.drewN {g : Nat} {a w : World} (h : KeepG g a w) (n : Nat) : KeepG g a (w.drewN n) := ⟨h.os, h.tape, h.output, h.size, h.block⟩
theorem KeepG.below {g : Nat} {w w' : World} (h : KeepG g w w') {B : Nat} (hB : B ≤ g) (hs : B ≤ w.heap.size) : Below B w w' := ⟨h.os, h.tape, h.output, h.size, fun k hk => h.block k (by omega) (by omega)⟩
theorem KeepG.frow {g : Nat} {w w' : World} (h : KeepG g w w') {b n : Nat} {f : Nat → Nat} (hr : FRow w b n f) (hb : b ≠ g) (hl : b < w.heap.size) : FRow w' b n f := World.rowIs.of_block hr (h.block b hb hl)
/-- Numbers by their digits from the top. -/
theorem top_split (X i : Nat) : X / wt i = X / wt (i + 1) * 4294967296 + dg X i := by
  unfold dg
  rw [wt_succ, ← Nat.div_div_eq_div_mul]
  have := Nat.div_add_mod (X / wt i) 4294967296
  omega
theorem top_lt {X Y i : Nat} (h : X / wt (i + 1) = Y / wt (i + 1)) (hd : dg X i < dg Y i) : X < Y := by
  have a := top_split X i
  have b := top_split Y i
  rw [h] at a
  have c : X / wt i < Y / wt i := by omega
  exact Nat.lt_of_not_le fun hle => absurd (Nat.div_le_div_right (c := wt i) hle) (by omega)
theorem top_eq {X Y i : Nat} (h : X / wt (i + 1) = Y / wt (i + 1)) (hd : dg X i = dg Y i) : X / wt i = Y / wt i := by
  rw [top_split X i, top_split Y i, h, hd]
/-- The digits of x, k of them taken off. -/
def offF (U P i k j : Nat) : Nat := if i ≤ j ∧ j < i + k then dg (U / wt i - P) (j - i) else dg U j
theorem offF_end {U P i m : Nat} (h : P ≤ U / wt i) (hU : U < wt (i + (m + 1))) (j : Nat) : offF U P i (m + 1) j = dg (U - P * wt i) j := by
  rw [off_digit h]
  unfold offF
  by_cases c : j < i
  · rw [if_neg (by omega), if_pos c]
  · rw [if_neg c]
    by_cases d : j < i + (m + 1)
    · rw [if_pos ⟨by omega, d⟩]
    · rw [if_neg (by omega), dg_over hU (by omega)]
      have hd : U / wt i < wt (m + 1) := by
        apply Nat.div_lt_of_lt_mul
        rw [← wt_add]
        exact hU
      rw [dg_over (m := m + 1) (by omega) (by omega)]
theorem dr2 {w : World} {a b : Nat} : ∃ n, (w.drewN a).drewN b = w.drewN n := ⟨a + b, by rw [World.drewN_drewN]⟩
theorem dr3 {w : World} {a b c : Nat} : ∃ n, ((w.drewN a).drewN b).drewN c = w.drewN n := ⟨a + (b + c), by rw [World.drewN_drewN, World.drewN_drewN]; try rw [Nat.add_assoc]⟩
set_option maxRecDepth 100000 in
set_option maxHeartbeats 4000000 in
theorem less_yes (U g L cx i : Nat) (ys : List Nat) (bo : Option Addr) (bcap q : Nat) (w : World) (hx : FRow w g L (dg U)) (hg : g < w.heap.size) (hy : NS w bo bcap ys) (hM : Hm ys) (hq : q ≤ 4294967295) (hU : U < wt (i + (ys.length + 1))) (hat : i + ys.length < L) (hL : L ≤ 17592186044416) (hc : q * vh ys ≤ U / wt i) :
    Calls Tryz.prog 130 #[.slice (some ⟨g, 0, none⟩) L cx, .int .i64 i, .slice bo ys.length bcap, .int .u64 q] w fun e w' => e = .returned (.bool true) ∧ FRow w' g L (dg (U - q * vh ys * wt i)) ∧ KeepG g w w' := by
  have ct := timesd_any ys bo bcap q (ys.length + 1) w hy hM hq (by omega)
  obtain ⟨m, hm⟩ : ∃ m, ys.length = m := ⟨_, rfl⟩
  rw [hm] at ct hU hat ⊢
  obtain ⟨P, hP⟩ : ∃ P, q * vh ys = P := ⟨_, rfl⟩
  rw [hP] at ct hc ⊢
  clear hP hm hM hy
  have hPl : P < wt (m + 1) := by
    have : U / wt i < wt (m + 1) := by
      apply Nat.div_lt_of_lt_mul
      rw [← wt_add]
      exact hU
    omega
  rw [show ((m + 1 : Nat) : Int) = (m : Int) + 1 by omega] at ct
  go_enter Tryz.func130, Tryz.ntmps130
  go_upto_region 2 with (go_at_call 129; refine ct.mono ?_; rintro e w1 ⟨rfl, hp, b1⟩)
  have hx1 : FRow w1 g L (dg U) := World.rowIs.of_block hx (b1.block g hg)
  have hK1 : KeepG g w w1 := KeepG.of_below b1
  have hne : w.heap.size ≠ g := by omega
  generalize hgp : w.heap.size = gp at *
  have hpl : gp < w1.heap.size := by
    have := World.block_lt_of_cell? w1 ⟨gp, 0, none⟩ (World.rowIs.cell hp (show 0 < m + 1 by omega))
    exact this
  clear ct b1 hx hgp
  go_upto_block 0 with fail
  go_cut [10] from 22 to 47 (fun _ wx => ∃ n, wx = w1.drewN n)
  case first =>
    go_wp2_with fail
    go_loopg [10] (m + 1) (fun gg ii wr => ∃ k : Nat, k ≤ m + 1 ∧ gg = k ∧ ii = .int .i64 ((k : Int) - 1) ∧ P / wt k = U / wt i / wt k ∧ ∃ n, wr = w1.drewN n)
    case atStart =>
      refine ⟨m + 1, by omega, rfl, by go_num, ?_, 0, rfl⟩
      rw [Nat.div_eq_of_lt hPl, Nat.div_eq_of_lt]
      apply Nat.div_lt_of_lt_mul
      rw [← wt_add]
      exact hU
    case round =>
      obtain ⟨k, hk, hgk, rfl, htop, n, rfl⟩ := hrel
      by_cases h0 : k = 0
      · subst h0
        go_wp2
        go_meet
        exact ⟨n, rfl⟩
      · obtain ⟨j, rfl⟩ : ∃ j, k = j + 1 := ⟨k - 1, by omega⟩
        have e1 : ((j + 1 : Nat) : Int) - 1 = (j : Int) := by omega
        have c1 : w1.cell? ⟨gp, j, none⟩ = some (.int .u64 ((dg P j : Nat) : Int)) := World.rowIs.cell hp (by omega)
        have c2 : w1.cell? ⟨g, i + j, none⟩ = some (.int .u64 ((dg U (i + j) : Nat) : Int)) := World.rowIs.cell hx1 (by omega)
        rw [dg_shift] at c2
        have hnot : ¬ dg (U / wt i) j < dg P j := fun c => absurd (top_lt htop.symm c) (by omega)
        have hnx : dg P j = dg (U / wt i) j → P / wt j = U / wt i / wt j := fun c => top_eq htop c
        obtain ⟨a, ha⟩ : ∃ a, dg P j = a := ⟨_, rfl⟩
        obtain ⟨b, hb⟩ : ∃ b, dg (U / wt i) j = b := ⟨_, rfl⟩
        rw [ha] at c1 hnot hnx
        rw [hb] at c2 hnot hnx
        rw [e1]
        clear ha hb htop e1
        have j1 : (j : Int) < (m : Int) + 1 := by omega
        have j3 : j < m + 1 := by omega
        have j4 : j ≤ m := by omega
        have j5 : (j : Int) ≤ (m : Int) := by omega
        have j6 : i + j < L := by omega
        have j7 : (0 : Int) ≤ (i : Int) + (j : Int) := by omega
        have j8 : ((i : Int) + (j : Int)).toNat = i + j := by omega
        have j2 : (i : Int) + (j : Int) < (L : Int) := by omega
        have w1' : IntKind.i64.wrap ((i : Int) + (j : Int)) = (i : Int) + (j : Int) := by rw [IntKind.wrap_i64]; omega
        by_cases hlt : a < b
        · have i1 : (a : Int) < (b : Int) := by omega
          go_upto_region 5 with fail
          go_quiet (fail)
          go_wp2
          go_meet
          exact dr2
        · have i1 : ¬ (a : Int) < (b : Int) := by omega
          have i2 : ¬ (b : Int) < (a : Int) := by omega
          have hab := hnx (by omega)
          go_upto_region 5 with fail
          go_quiet (fail)
          go_upto_region 6 with fail
          go_quiet (fail)
          go_wp2
          go_roundg j
          case measure => omega
          case rel => exact ⟨j, by omega, rfl, by go_num, hab, _, rfl⟩
  obtain ⟨n1, rfl⟩ := hcut
  have hD : U / wt i - P + P = U / wt i := by omega
  obtain ⟨D, eD⟩ : ∃ D, U / wt i - P = D := ⟨_, rfl⟩
  have hend := offF_end hc hU
  have hst : FRow (w1.drewN n1) g L (offF U P i 0) := hx1.congr (fun j _ => by unfold offF; rw [if_neg (by omega)])
  have hK : KeepG g w (w1.drewN n1) := hK1.drewN n1
  have hp2 : FRow (w1.drewN n1) gp (m + 1) (fun j => dg P j) := hp
  have hsz : gp < (w1.drewN n1).heap.size := hpl
  rw [eD] at hD
  generalize w1.drewN n1 = W1 at *
  clear hx1 hK1 hp hpl
  go_upto_region 10 with fail
  go_loopg [12, 11] (m + 1) (fun gg ii u wr => ∃ k : Nat, k ≤ m + 1 ∧ gg = m + 1 - k ∧ ii = .int .i64 k ∧ u = .int .u64 ((cr 1 D P k : Nat) : Int) ∧ FRow wr g L (offF U P i k) ∧ FRow wr gp (m + 1) (fun j => dg P j) ∧ KeepG g w wr)
  case atStart => exact ⟨0, by omega, rfl, rfl, by rw [cr_zero]; rfl, hst, hp2, hK⟩
  case round =>
    obtain ⟨k, hk, hgk, rfl, rfl, hrow, hpr, hKr⟩ := hrel
    have HG : Hid (_ = m + 1 - k) := hgk
    clear hst hp2 hK hgk
    have hcr := cr_le 1 D P k
    by_cases hlt : k < m + 1
    · have i1 : (k : Int) ≤ (m : Int) := by omega
      have i1' : (k : Int) < (m : Int) + 1 := by omega
      have i3 : k ≤ m := by omega
      have i4 : (i : Int) + (k : Int) < (L : Int) := by omega
      have i5 : i + k < L := by omega
      have i7 : (0 : Int) ≤ (i : Int) + (k : Int) := by omega
      have i8 : ((i : Int) + (k : Int)).toNat = i + k := by omega
      have c1 : wr.cell? ⟨gp, k, none⟩ = some (.int .u64 ((dg P k : Nat) : Int)) := World.rowIs.cell hpr (by omega)
      have c2 : wr.cell? ⟨g, i + k, none⟩ = some (.int .u64 ((offF U P i k (i + k) : Nat) : Int)) := World.rowIs.cell hrow (by omega)
      have c3 := World.rowIs.frozen hrow (i + k)
      have e2 : offF U P i k (i + k) = dg (U / wt i) k := by unfold offF; rw [if_neg (by omega), dg_shift]
      rw [e2] at c2
      obtain ⟨us1, us2⟩ := less_step D P k
      rw [hD] at us1 us2
      have hd1 := dg_lt (U / wt i) k
      have hd2 := dg_lt P k
      have hset := hrow.set (i + k) (dg D k)
      obtain ⟨a, ha⟩ : ∃ a, dg (U / wt i) k = a := ⟨_, rfl⟩
      obtain ⟨y, hy⟩ : ∃ y, dg P k = y := ⟨_, rfl⟩
      obtain ⟨c, hcc⟩ : ∃ c, cr 1 D P k = c := ⟨_, rfl⟩
      rw [ha] at c2 us1 us2 hd1
      rw [hy] at c1 us1 us2 hd2
      rw [hcc] at us1 us2 hcr ⊢
      have HQ : Hid (((dg D k : Nat) : Int) = (4294967296 + (a : Int) - (y : Int) - (c : Int)) % 4294967296) := (show _ = _ by rw [← us1]; omega)
      have HR : Hid (((cr 1 D P (k + 1) : Nat) : Int) = 1 - (4294967296 + (a : Int) - (y : Int) - (c : Int)) / 4294967296) := (show _ = _ by rw [← us2]; omega)
      have f0 : IntKind.i64.wrap ((i : Int) + (k : Int)) = (i : Int) + (k : Int) := by rw [IntKind.wrap_i64]; omega
      have f1 : IntKind.u64.wrap (4294967296 + (a : Int)) = 4294967296 + (a : Int) := by rw [IntKind.wrap_u64]; omega
      have f2 : IntKind.u64.wrap (4294967296 + (a : Int) - (y : Int)) = 4294967296 + (a : Int) - (y : Int) := by rw [IntKind.wrap_u64]; omega
      have f3 : IntKind.u64.wrap (4294967296 + (a : Int) - (y : Int) - (c : Int)) = 4294967296 + (a : Int) - (y : Int) - (c : Int) := by rw [IntKind.wrap_u64]; omega
      have f4 : IntKind.u64.wrap (1 - (4294967296 + (a : Int) - (y : Int) - (c : Int)) / 4294967296) = 1 - (4294967296 + (a : Int) - (y : Int) - (c : Int)) / 4294967296 := by rw [IntKind.wrap_u64]; omega
      rw [HQ.out] at hset
      clear us1 us2 ha hy hcc e2
      go_upto_region 12 with fail
      go_quiet (fail)
      have hrow' : FRow ((wr.drewN nq).setCell ⟨g, i + k, none⟩ (.int .u64 ((4294967296 + (a : Int) - (y : Int) - (c : Int)) % 4294967296))) g L _ := hset
      have hK' := (hKr.drewN nq).setCell (i + k) (.int .u64 ((4294967296 + (a : Int) - (y : Int) - (c : Int)) % 4294967296))
      have hp' : FRow ((wr.drewN nq).setCell ⟨g, i + k, none⟩ (.int .u64 ((4294967296 + (a : Int) - (y : Int) - (c : Int)) % 4294967296))) gp (m + 1) (fun j => dg P j) := World.rowIs.of_block hpr (Below.heap_setCell _ _ _ _ hne)
      have Hrow : Hid _ := hrow'
      have HKk : Hid _ := hK'
      have Hpp : Hid _ := hp'
      clear hset hrow hpr hKr hrow' hK' hp'
      go_upto_region 11 with fail
      clear f1 f2 f3 f4 hd1 hd2 hcr c1 c2 c3 f0
      go_wp2
      go_roundg (m + 1 - (k + 1))
      case measure => rw [HG.out]; omega
      case rel =>
        refine ⟨k + 1, by omega, rfl, by go_num, by rw [HR.out], Hrow.out.congr (fun j hj => ?_), Hpp.out, HKk.out⟩
        clear HR HQ Hrow HKk Hpp HG i4 i7 i8 hU hc hend hD hPl
        unfold offF
        rw [eD]
        by_cases q1 : j = i + k
        · subst q1
          rw [if_pos rfl, if_pos (by omega), Nat.add_sub_cancel_left]
        · rw [if_neg q1]
          by_cases q2 : i ≤ j ∧ j < i + k
          · rw [if_pos q2, if_pos (by omega)]
          · rw [if_neg q2, if_neg (by omega)]
    · obtain rfl : k = m + 1 := by omega
      have i9 : ¬ (((m + 1 : Nat) : Int) ≤ (m : Int)) := by omega
      have i10 : ¬ ((m : Int) + 1 ≤ (m : Int)) := by omega
      go_wp2
      go_ret
      exact ⟨rfl, hrow.congr (fun j _ => hend j), hKr⟩
end Go.Proofs.YtnclddfljghebaaGreatDoor

namespace Go.Proofs.YtnclddfljghebaaGreatDoor
open Go.RowKit

set_option maxRecDepth 100000 in
set_option maxHeartbeats 4000000 in
theorem less_no (U g L cx i : Nat) (ys : List Nat) (bo : Option Addr) (bcap q : Nat) (w : World) (hx : FRow w g L (dg U)) (hg : g < w.heap.size) (hy : NS w bo bcap ys) (hM : Hm ys) (hq : q ≤ 4294967295) (hU : U < wt (i + (ys.length + 1))) (hat : i + ys.length < L) (hL : L ≤ 17592186044416) (hV : q * vh ys < wt (ys.length + 1)) (hc : U / wt i < q * vh ys) :
    Calls Tryz.prog 130 #[.slice (some ⟨g, 0, none⟩) L cx, .int .i64 i, .slice bo ys.length bcap, .int .u64 q] w fun e w' => e = .returned (.bool false) ∧ Below w.heap.size w w' := by
  have ct := timesd_any ys bo bcap q (ys.length + 1) w hy hM hq (by omega)
  obtain ⟨m, hm⟩ : ∃ m, ys.length = m := ⟨_, rfl⟩
  rw [hm] at ct hU hat hV ⊢
  obtain ⟨P, hP⟩ : ∃ P, q * vh ys = P := ⟨_, rfl⟩
  rw [hP] at ct hc hV
  clear hP hm hM hy
  rw [show ((m + 1 : Nat) : Int) = (m : Int) + 1 by omega] at ct
  go_enter Tryz.func130, Tryz.ntmps130
  go_upto_region 2 with (go_at_call 129; refine ct.mono ?_; rintro e w1 ⟨rfl, hp, b1⟩)
  have hx1 : FRow w1 g L (dg U) := World.rowIs.of_block hx (b1.block g hg)
  have HB : Hid (Below w.heap.size w w1) := b1
  obtain ⟨gp, hgp⟩ : ∃ gp, w.heap.size = gp := ⟨_, rfl⟩
  rw [hgp] at hp
  rw [hgp]
  clear ct b1 hx
  go_wp2_with fail
  go_loopg [10] (m + 1) (fun gg ii wr => ∃ k : Nat, k ≤ m + 1 ∧ gg = k ∧ ii = .int .i64 ((k : Int) - 1) ∧ P / wt k = U / wt i / wt k ∧ ∃ n, wr = w1.drewN n)
  case atStart =>
    refine ⟨m + 1, by omega, rfl, by go_num, ?_, 0, rfl⟩
    rw [Nat.div_eq_of_lt hV, Nat.div_eq_of_lt]
    apply Nat.div_lt_of_lt_mul
    rw [← wt_add]
    exact hU
  case round =>
    obtain ⟨k, hk, hgk, rfl, htop, n, rfl⟩ := hrel
    by_cases h0 : k = 0
    · subst h0
      exfalso
      rw [wt_zero, Nat.div_one, Nat.div_one] at htop
      omega
    · obtain ⟨j, rfl⟩ : ∃ j, k = j + 1 := ⟨k - 1, by omega⟩
      have e1 : ((j + 1 : Nat) : Int) - 1 = (j : Int) := by omega
      have c1 : w1.cell? ⟨gp, j, none⟩ = some (.int .u64 ((dg P j : Nat) : Int)) := World.rowIs.cell hp (by omega)
      have c2 : w1.cell? ⟨g, i + j, none⟩ = some (.int .u64 ((dg U (i + j) : Nat) : Int)) := World.rowIs.cell hx1 (by omega)
      rw [dg_shift] at c2
      have hnot : ¬ dg P j < dg (U / wt i) j := fun c => absurd (top_lt htop c) (by omega)
      have hnx : dg P j = dg (U / wt i) j → P / wt j = U / wt i / wt j := fun c => top_eq htop c
      obtain ⟨a, ha⟩ : ∃ a, dg P j = a := ⟨_, rfl⟩
      obtain ⟨b, hb⟩ : ∃ b, dg (U / wt i) j = b := ⟨_, rfl⟩
      rw [ha] at c1 hnot hnx
      rw [hb] at c2 hnot hnx
      rw [e1]
      clear ha hb htop e1
      have j1 : (j : Int) < (m : Int) + 1 := by omega
      have j3 : j < m + 1 := by omega
      have j4 : j ≤ m := by omega
      have j5 : (j : Int) ≤ (m : Int) := by omega
      have j6 : i + j < L := by omega
      have j7 : (0 : Int) ≤ (i : Int) + (j : Int) := by omega
      have j8 : ((i : Int) + (j : Int)).toNat = i + j := by omega
      have j2 : (i : Int) + (j : Int) < (L : Int) := by omega
      have w1' : IntKind.i64.wrap ((i : Int) + (j : Int)) = (i : Int) + (j : Int) := by rw [IntKind.wrap_i64]; omega
      have i1 : ¬ (a : Int) < (b : Int) := by omega
      by_cases hlt : b < a
      · have i2 : (b : Int) < (a : Int) := by omega
        go_upto_region 5 with fail
        go_quiet (fail)
        go_upto_region 6 with fail
        go_quiet (fail)
        go_wp2
        go_ret
        have hB := HB.out
        rw [hgp] at hB
        exact ⟨rfl, ⟨hB.os, hB.tape, hB.output, hB.size, hB.block⟩⟩
      · have i2 : ¬ (b : Int) < (a : Int) := by omega
        have hab := hnx (by omega)
        go_upto_region 5 with fail
        go_quiet (fail)
        go_upto_region 6 with fail
        go_quiet (fail)
        go_wp2
        go_roundg j
        case measure => omega
        case rel => exact ⟨j, by omega, rfl, by go_num, hab, _, rfl⟩
end Go.Proofs.YtnclddfljghebaaGreatDoor

namespace Go.Proofs.YtnclddfljghebaaGreatDoor
open Go.RowKit

/-- What is left of S once the digits from k on are done. -/
def lf (S V k : Nat) : Nat := S % (V * wt k)
theorem lf_lt {S V k : Nat} (hV : 0 < V) : lf S V k < V * wt k := Nat.mod_lt _ (Nat.mul_pos hV (wt_pos k))
theorem lf_digit {S V i : Nat} : lf S V (i + 1) / wt i / V = dg (S / V) i := by
  unfold lf dg
  rw [wt_succ, Nat.div_div_eq_div_mul, Nat.mul_comm (wt i) V, ← Nat.mul_assoc, Nat.mod_mul_right_div_self, Nat.div_div_eq_div_mul]
theorem lf_next {S V i : Nat} : lf S V (i + 1) - dg (S / V) i * V * wt i = lf S V i := by
  rw [← lf_digit]
  have e : lf S V (i + 1) % (V * wt i) = lf S V i := by
    unfold lf
    rw [wt_succ, ← Nat.mul_assoc, Nat.mod_mul_right_mod]
  rw [← e, Nat.div_div_eq_div_mul, Nat.mul_comm (wt i) V, Nat.mul_assoc, Nat.mod_def, Nat.mul_comm (V * wt i)]
theorem lf_zero (S V : Nat) : lf S V 0 = S % V := by unfold lf; rw [wt_zero, Nat.mul_one]
theorem topd_two {U j : Nat} (hU : U < wt (j + 2)) : dg U (j + 1) * 4294967296 + dg U j = U / wt j := by
  have a := top_split U j
  have b : U / wt (j + 1) < 4294967296 := by
    apply Nat.div_lt_of_lt_mul
    rw [← wt_succ]
    exact hU
  have c : dg U (j + 1) = U / wt (j + 1) := by unfold dg; exact Nat.mod_eq_of_lt b
  rw [c]
  omega
end Go.Proofs.YtnclddfljghebaaGreatDoor

namespace Go.Proofs.YtnclddfljghebaaGreatDoor
open Go.RowKit

/-- What the two numbers are made greater by. -/
theorem long_facts {Y m : Nat} (hm : 2 ≤ m) (hY : Y < wt m) (ht : dg Y (m - 1) ≠ 0) : ∃ sc, 4294967296 / (dg Y (m - 1) + 1) = sc ∧ 1 ≤ sc ∧ sc ≤ 2147483648 ∧ sc * Y < wt m ∧ wt (m - 1) ≤ sc * Y ∧ wt (m - 1) ≤ Y := by
  obtain ⟨y, hy⟩ : ∃ y, dg Y (m - 1) = y := ⟨_, rfl⟩
  rw [hy] at ht ⊢
  have hyl : y < 4294967296 := by rw [← hy]; exact dg_lt _ _
  have hq : Y / wt (m - 1) = y := by
    rw [← hy]
    unfold dg
    rw [Nat.mod_eq_of_lt]
    apply Nat.div_lt_of_lt_mul
    rw [← wt_succ, show m - 1 + 1 = m by omega]
    exact hY
  have hw := wt_pos (m - 1)
  have h1 : y * wt (m - 1) ≤ Y := by rw [← hq]; exact Nat.div_mul_le_self _ _
  have h2 : Y < (y + 1) * wt (m - 1) := by
    rw [← hq, Nat.mul_comm]
    exact Nat.lt_mul_div_succ Y hw
  have h3 : wt (m - 1) ≤ Y := Nat.le_trans (by have := Nat.mul_le_mul_right (wt (m - 1)) (show 1 ≤ y by omega); omega) h1
  have s1 : 1 ≤ 4294967296 / (y + 1) := (Nat.le_div_iff_mul_le (by omega)).2 (by omega)
  have s2 : 4294967296 / (y + 1) ≤ 2147483648 := Nat.le_trans (Nat.div_le_div_left (show 2 ≤ y + 1 by omega) (by omega)) (by omega)
  have s3 : 4294967296 / (y + 1) * (y + 1) ≤ 4294967296 := Nat.div_mul_le_self _ _
  refine ⟨_, rfl, s1, s2, ?_, ?_, h3⟩
  · generalize 4294967296 / (y + 1) = sc at *
    have a : sc * Y < sc * ((y + 1) * wt (m - 1)) := Nat.mul_lt_mul_of_pos_left h2 (by omega)
    have b : sc * ((y + 1) * wt (m - 1)) ≤ 4294967296 * wt (m - 1) := by rw [← Nat.mul_assoc]; exact Nat.mul_le_mul_right _ s3
    have c : wt m = wt (m - 1) * 4294967296 := by rw [← wt_succ, show m - 1 + 1 = m by omega]
    rw [Nat.mul_comm] at c
    omega
  · generalize 4294967296 / (y + 1) = sc at *
    have := Nat.mul_le_mul_right Y s1
    omega
end Go.Proofs.YtnclddfljghebaaGreatDoor
