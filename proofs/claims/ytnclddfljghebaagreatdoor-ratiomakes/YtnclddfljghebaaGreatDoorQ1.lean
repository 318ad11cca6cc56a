/- What takeOff answers. -/
import Derived.Test.YtnclddfljghebaaGreatDoorZp
import Derived.Test.YtnclddfljghebaaGreatDoorRR
import Derived.Deep.CutBlock
namespace Go.Proofs.YtnclddfljghebaaGreatDoor
open Go.RowKit

/-- Nothing has turned but block g. -/
structure Keep (g : Nat) (w w' : World) : Prop where
  os : w'.os = w.os
  tape : w'.tape = w.tape
  output : w'.output = w.output
  size : w'.heap.size = w.heap.size
  block : ∀ k, k ≠ g → w'.heap[k]? = w.heap[k]?
/-- Nothing at all has turned. -/
structure Alike (w w' : World) : Prop where
  os : w'.os = w.os
  tape : w'.tape = w.tape
  output : w'.output = w.output
  heap : w'.heap = w.heap
theorem Alike.refl (w : World) : Alike w w := ⟨rfl, rfl, rfl, rfl⟩
theorem Alike.drew {w w' : World} (h : Alike w w') : Alike w w'.drew := ⟨h.os, h.tape, h.output, h.heap⟩
theorem Alike.drewN {w : World} : ∀ n, Alike w (w.drewN n) := fun _ => ⟨rfl, rfl, rfl, rfl⟩
theorem Alike.trans {a b c : World} (h : Alike a b) (k : Alike b c) : Alike a c := ⟨k.os.trans h.os, k.tape.trans h.tape, k.output.trans h.output, k.heap.trans h.heap⟩
theorem Alike.keep {w w' : World} (h : Alike w w') (g : Nat) : Keep g w w' := ⟨h.os, h.tape, h.output, by rw [h.heap], fun _ _ => by rw [h.heap]⟩
theorem Alike.below {w w' : World} (h : Alike w w') (B : Nat) : Below B w w' := ⟨h.os, h.tape, h.output, by rw [h.heap]; exact Nat.le_refl _, fun _ _ => by rw [h.heap]⟩
theorem Alike.frow {w w' : World} (h : Alike w w') {b n : Nat} {f : Nat → Nat} (hr : FRow w b n f) : FRow w' b n f := World.rowIs.of_block hr (by rw [h.heap])
theorem Alike.cell {w w' : World} (h : Alike w w') (p : Addr) : w'.cell? p = w.cell? p := World.cell?_of_block (w := w) (by rw [h.heap])
theorem Alike.frozen {w w' : World} (h : Alike w w') (p : Addr) : w'.frozen? p = w.frozen? p := World.frozen?_of_block (w := w) (by rw [h.heap])
theorem Alike.lrow {w w' : World} (h : Alike w w') {ao : Option Addr} {xs : List Nat} (hr : LRow w ao xs) : LRow w' ao xs := hr.below (h.below _)
theorem Keep.refl (g : Nat) (w : World) : Keep g w w := (Alike.refl w).keep g
theorem Keep.trans {g : Nat} {a b c : World} (h : Keep g a b) (k : Keep g b c) : Keep g a c :=
  ⟨k.os.trans h.os, k.tape.trans h.tape, k.output.trans h.output, k.size.trans h.size, fun i hi => (k.block i hi).trans (h.block i hi)⟩
theorem Keep.drew {g : Nat} {a w : World} (h : Keep g a w) : Keep g a w.drew := ⟨h.os, h.tape, h.output, h.size, h.block⟩
theorem Keep.setCell {g : Nat} {a w : World} (h : Keep g a w) (i : Nat) (u : Value) : Keep g a (w.setCell ⟨g, i, none⟩ u) :=
  h.trans ⟨rfl, rfl, rfl, by simp [World.setCell], fun k hk => Below.heap_setCell _ _ _ _ hk⟩
theorem Keep.below {g : Nat} {w w' : World} (h : Keep g w w') {B : Nat} (hB : B ≤ g) : Below B w w' := ⟨h.os, h.tape, h.output, by rw [h.size]; exact Nat.le_refl _, fun k hk => h.block k (by omega)⟩
theorem Keep.frow {g : Nat} {w w' : World} (h : Keep g w w') {b n : Nat} {f : Nat → Nat} (hr : FRow w b n f) (hb : b ≠ g) : FRow w' b n f := World.rowIs.of_block hr (h.block b hb)
theorem Keep.cell {g : Nat} {w w' : World} (h : Keep g w w') {p : Addr} (hp : p.block ≠ g) : w'.cell? p = w.cell? p := World.cell?_of_block (w := w) (h.block p.block hp)
theorem Keep.frozen {g : Nat} {w w' : World} (h : Keep g w w') {p : Addr} (hp : p.block ≠ g) : w'.frozen? p = w.frozen? p := World.frozen?_of_block (w := w) (h.block p.block hp)
/-- Limbs that lie not in block g. -/
def Apt (g : Nat) (ao : Option Addr) : Prop := ∀ b off, ao = some ⟨b, off, none⟩ → b ≠ g
theorem Keep.lrow {g : Nat} {w w' : World} (h : Keep g w w') {ao : Option Addr} {xs : List Nat} (hr : LRow w ao xs) (ha : Apt g ao) : LRow w' ao xs := by
  rcases hr with h0 | ⟨b, off, rfl, hc⟩
  · exact Or.inl h0
  · exact Or.inr ⟨b, off, rfl, fun j hj => (h.cell (p := ⟨b, off + j, none⟩) (ha b off rfl)).trans (hc j hj)⟩
theorem LRow.apt {w : World} {ao : Option Addr} {xs : List Nat} (hr : LRow w ao xs) (h0 : xs.length ≠ 0) {g : Nat} (hg : w.heap.size ≤ g) : Apt g ao := fun b off e k => by
  rcases hr with h | ⟨b', off', e', hc⟩
  · exact h0 h
  · rw [e] at e'
    cases e'
    have := World.block_lt_of_cell? w _ (hc 0 (by omega))
    have : b < w.heap.size := this
    omega
end Go.Proofs.YtnclddfljghebaaGreatDoor

namespace Go.Proofs.YtnclddfljghebaaGreatDoor
open Go.RowKit

set_option maxHeartbeats 400000 in
theorem lz64_any (x : Nat) (h : x < 18446744073709551616) (w : World) :
    Calls Tryz.prog 79 #[.int .u64 x] w fun e w' => e = .returned (.int .i64 ((64 - bl x : Nat) : Int)) ∧ w' = w := by
  have hb : bl x ≤ 64 := bl_le_iff.2 (by omega)
  have hl := len64_any x h w
  generalize bl x = b at *
  go_enter Tryz.func79, Tryz.ntmps79
  go_wp2_with (go_at_call 76; refine hl.mono ?_; rintro e w' ⟨rfl, rfl⟩)
  go_ret
  exact ⟨retI (by omega), rfl⟩
theorem norm64 {hi lo y s : Nat} (h1 : hi < y) (hy : y < 18446744073709551616) (hlo : lo < 18446744073709551616) (hs : 64 - bl y = s) :
    ∃ Y u l : Int, IntKind.u64.wrap ((y : Int) * 2 ^ s) = Y ∧ IntKind.u64.wrap ((lo : Int) * 2 ^ s) = l ∧ bits BinOp.or IntKind.u64 (IntKind.u64.wrap ((hi : Int) * 2 ^ s)) ((lo : Int) / 2 ^ (64 - s)) = u ∧
      9223372036854775808 ≤ Y ∧ Y < 18446744073709551616 ∧ 0 ≤ u ∧ u < Y ∧ 0 ≤ l ∧ l < 18446744073709551616 ∧ (u * 18446744073709551616 + l) / Y = (((hi * 18446744073709551616 + lo) / y : Nat) : Int) := by
  have hb := bl_spec (v := y) (by omega)
  have hb2 : bl y ≤ 64 := bl_le_iff.2 (by omega)
  obtain ⟨b, hbe⟩ : ∃ b, bl y = b := ⟨_, rfl⟩
  rw [hbe] at hb hb2 hs
  have eP : 2 ^ (64 - s) * 2 ^ s = 18446744073709551616 := by rw [← Nat.pow_add, show 64 - s + s = 64 by omega, p64]
  have ep1 : 2 ^ (b - 1) * 2 ^ s = 9223372036854775808 := by rw [← Nat.pow_add, show b - 1 + s = 63 by omega]
  have ep2 : 2 ^ b * 2 ^ s = 18446744073709551616 := by rw [← Nat.pow_add, show b + s = 64 by omega, p64]
  have hS := Nat.two_pow_pos s
  have hT := Nat.two_pow_pos (64 - s)
  have y1 : 9223372036854775808 ≤ y * 2 ^ s := by rw [← ep1]; exact Nat.mul_le_mul_right _ hb.1
  have y2 : y * 2 ^ s < 18446744073709551616 := by rw [← ep2]; exact Nat.mul_lt_mul_of_pos_right hb.2.1 hS
  have hl : lo / 2 ^ (64 - s) < 2 ^ s := Nat.div_lt_of_lt_mul (by rw [eP]; exact hlo)
  have hu : (hi + 1) * 2 ^ s ≤ y * 2 ^ s := Nat.mul_le_mul_right _ h1
  rw [Nat.add_mul, Nat.one_mul] at hu
  have el : lo * 2 ^ s / 18446744073709551616 = lo / 2 ^ (64 - s) := by rw [← eP, Nat.mul_div_mul_right _ _ hS]
  have em := Nat.mod_add_div (lo * 2 ^ s) 18446744073709551616
  rw [el] at em
  have cy : (y : Int) * 2 ^ s = ((y * 2 ^ s : Nat) : Int) := by rw [Int.natCast_mul, Int.natCast_pow]; rfl
  have ch : (hi : Int) * 2 ^ s = ((hi * 2 ^ s : Nat) : Int) := by rw [Int.natCast_mul, Int.natCast_pow]; rfl
  have cl : (lo : Int) * 2 ^ s = ((lo * 2 ^ s : Nat) : Int) := by rw [Int.natCast_mul, Int.natCast_pow]; rfl
  have cd : (lo : Int) / 2 ^ (64 - s) = ((lo / 2 ^ (64 - s) : Nat) : Int) := by rw [Int.natCast_ediv, Int.natCast_pow]; rfl
  have eor : bits BinOp.or IntKind.u64 (IntKind.u64.wrap ((hi : Int) * 2 ^ s)) ((lo : Int) / 2 ^ (64 - s)) = ((hi * 2 ^ s + lo / 2 ^ (64 - s) : Nat) : Int) := by
    rw [ch, cd, IntKind.wrap_u64, show ((hi * 2 ^ s : Nat) : Int) % 18446744073709551616 = ((hi * 2 ^ s : Nat) : Int) by omega, u64_or_nat _ _ (by omega) (by omega), Nat.mul_comm, ← Nat.two_pow_add_eq_or_of_lt hl]
  refine ⟨((y * 2 ^ s : Nat) : Int), ((hi * 2 ^ s + lo / 2 ^ (64 - s) : Nat) : Int), ((lo * 2 ^ s % 18446744073709551616 : Nat) : Int), ?_, ?_, eor, by omega, by omega, by omega, by omega, by omega, by omega, ?_⟩
  · rw [cy, IntKind.wrap_u64]; omega
  · rw [cl, IntKind.wrap_u64]; omega
  · have e : ((hi * 2 ^ s + lo / 2 ^ (64 - s) : Nat) : Int) * 18446744073709551616 + ((lo * 2 ^ s % 18446744073709551616 : Nat) : Int) = (((hi * 18446744073709551616 + lo) * 2 ^ s : Nat) : Int) := by
      have : (hi * 2 ^ s + lo / 2 ^ (64 - s)) * 18446744073709551616 + lo * 2 ^ s % 18446744073709551616 = (hi * 18446744073709551616 + lo) * 2 ^ s := by
        rw [Nat.add_mul, Nat.add_mul, Nat.mul_right_comm]
        omega
      rw [← this, Int.natCast_add, Int.natCast_mul]
      rfl
    rw [e, ← Int.natCast_ediv, Nat.mul_div_mul_right _ _ hS]
theorem wrapU_id {z : Int} (h0 : 0 ≤ z) (h : z < 18446744073709551616) : IntKind.u64.wrap z = z := by rw [IntKind.wrap_u64]; omega
/-- What a half's remainder comes to, wrapped. -/
theorem left64 {u v q Y : Int} (hY : 0 < Y) (hY2 : Y < 18446744073709551616) (hq : q = (u * 4294967296 + v) / Y) : IntKind.u64.wrap (IntKind.u64.wrap (IntKind.u64.wrap (u * 4294967296) + v) - IntKind.u64.wrap (q * Y)) = (u * 4294967296 + v) % Y := by
  have e := Int.mul_ediv_add_emod (u * 4294967296 + v) Y
  have m0 := Int.emod_nonneg (u * 4294967296 + v) (show Y ≠ 0 by omega)
  have m1 := Int.emod_lt_of_pos (u * 4294967296 + v) hY
  rw [← hq, Int.mul_comm] at e
  simp only [IntKind.wrap_u64]
  generalize q * Y = Z at *
  omega
set_option maxRecDepth 100000 in
set_option maxHeartbeats 1000000 in
theorem div64_ex (hi lo y : Nat) (h1 : hi < y) (hy : y < 18446744073709551616) (hlo : lo < 18446744073709551616) :
    ∃ r : Int, ∀ w, Calls Tryz.prog 105 #[.int .u64 hi, .int .u64 lo, .int .u64 y] w fun e w' => e = .returned (.tuple #[.int .u64 (((hi * 18446744073709551616 + lo) / y : Nat) : Int), .int .u64 r]) ∧ ∃ n, w' = w.drewN n := by
  have t1 : ((y : Int) == 0) = false := by simp; omega
  have t2 : ¬ (y : Int) ≤ (hi : Int) := by omega
  obtain ⟨R, hR⟩ : ∃ R, (hi * 18446744073709551616 + lo) / y = R := ⟨_, rfl⟩
  rw [hR]
  have hR : Hid _ := hR
  by_cases h0 : hi = 0
  · subst h0
    have e : (R : Int) = (lo : Int) / y := by rw [← hR.out, Nat.zero_mul, Nat.zero_add, Int.natCast_ediv]
    have p0 : 0 ≤ (lo : Int) / y := Int.ediv_nonneg (by omega) (by omega)
    have p1 : (lo : Int) / y ≤ lo := Int.ediv_le_self _ (by omega)
    have e2 : IntKind.u64.wrap ((lo : Int).tdiv y) = (lo : Int) / y := by rw [Int.tdiv_eq_ediv_of_nonneg (by omega), wrapU_id p0 (by omega)]
    have y0 : (y : Int) ≠ 0 := by omega
    have HE : Hid ((R : Int) = (lo : Int) / y) := e
    clear e
    refine ⟨(lo : Int) % y, fun w => ?_⟩
    go_enter Tryz.func105, Tryz.ntmps105
    go_upto_region 6 with fail
    go_quiet (fail)
    go_wp2
    go_ret2
    exact ⟨ret2U HE.out.symm rfl, _, rfl⟩
  · have t3 : ((hi : Int) == 0) = false := by simp; omega
    have hl := lz64_any y hy
    obtain ⟨s, hs⟩ : ∃ s, 64 - bl y = s := ⟨_, rfl⟩
    rw [hs] at hl
    have hb := bl_spec (v := y) (by omega)
    have hb2 : bl y ≤ 64 := bl_le_iff.2 (by omega)
    have s1 : s ≤ 63 := by omega
    obtain ⟨Y, u, l, eY, el, eu, Y1, Y2, u0, u1, l0, l1, HR⟩ := norm64 h1 hy hlo hs
    rw [hR.out] at HR
    have HR : Hid _ := HR
    have m0 := and_low32 Y (by omega) Y2
    have n0 := and_low32 l l0 l1
    obtain ⟨y1, hy1⟩ : ∃ y1, Y / 4294967296 = y1 := ⟨_, rfl⟩
    obtain ⟨y0, hy0⟩ : ∃ y0, Y % 4294967296 = y0 := ⟨_, rfl⟩
    obtain ⟨v1, hv1⟩ : ∃ v1, l / 4294967296 = v1 := ⟨_, rfl⟩
    obtain ⟨v0, hv0⟩ : ∃ v0, l % 4294967296 = v0 := ⟨_, rfl⟩
    rw [hy0] at m0
    rw [hv0] at n0
    have a1 : 2147483648 ≤ y1 := by omega
    have a2 : y1 < 4294967296 := by omega
    have a3 : 0 ≤ y0 := by omega
    have a4 : y0 < 4294967296 := by omega
    have a5 : 0 ≤ v1 := by omega
    have a6 : v1 < 4294967296 := by omega
    have a7 : 0 ≤ v0 := by omega
    have a8 : v0 < 4294967296 := by omega
    have HY : Hid (Y = y1 * 4294967296 + y0) := (show _ = _ by omega)
    have HL : Hid (l = v1 * 4294967296 + v0) := (show _ = _ by omega)
    have T1 := dv_start (y1 := y1) (y0 := y0) (u := u) (v := v1) a1 a2 a3 a4 u0 (by have := HY.out; omega) a5 a6
    have b1 : IntKind.u64.wrap (u.tdiv y1) = u / y1 := by
      rw [Int.tdiv_eq_ediv_of_nonneg u0]
      exact wrapU_id T1.q0 (by have := T1.q2; omega)
    have b2 : IntKind.u64.wrap (u - IntKind.u64.wrap (u / y1 * y1)) = u - u / y1 * y1 := by
      have e := T1.e
      have r0 := T1.r0
      have r2 := T1.r2
      have : 0 ≤ u / y1 * y1 := Int.mul_nonneg T1.q0 (by omega)
      rw [wrapU_id this (by omega), wrapU_id r0 (by omega)]
    have z1 : y1 ≠ 0 := by omega
    obtain ⟨q, hq⟩ : ∃ q, u / y1 = q := ⟨_, rfl⟩
    obtain ⟨r, hr⟩ : ∃ r, u - q * y1 = r := ⟨_, rfl⟩
    rw [hq] at b1 b2 T1
    rw [hr] at b2 T1
    have S1 : Hid _ := T1
    clear T1
    clear hq hr hs hb hb2 hv0 hy0
    refine ⟨((u * 4294967296 + v1) % Y * 4294967296 + v0) % Y / 2 ^ s, fun w => ?_⟩
    obtain ⟨rr, hrr⟩ : ∃ rr, ((u * 4294967296 + v1) % Y * 4294967296 + v0) % Y / 2 ^ s = rr := ⟨_, rfl⟩
    rw [hrr]
    have hrr : Hid _ := hrr
    go_enter Tryz.func105, Tryz.ntmps105
    go_upto_block 0 with (go_at_call 79; refine (hl _).mono ?_; rintro e w' ⟨rfl, hww⟩; subst w')
    go_cut [15, 16] from 19 (fun sq sr wx => (∃ r, sr = .int .u64 r) ∧ sq = .int .u64 ((u * 4294967296 + v1) / Y) ∧ wx = w)
    case first =>
      go_wp2_with fail
      go_loopg [15, 16] q.toNat (fun g sq sr wr => ∃ q r : Int, g = q.toNat ∧ sq = .int .u64 q ∧ sr = .int .u64 r ∧ Hid (DvS y1 y0 u v1 q r) ∧ wr = w)
      case atStart => exact ⟨q, r, rfl, rfl, rfl, S1, rfl⟩
      case round =>
        clear S1 b1 b2
        obtain ⟨q, r, hg, rfl, rfl, hS, h'⟩ := hrel
        subst wr
        have p0 := hS.out.q0
        have p1 := hS.out.q2
        have p2 := hS.out.r0
        have p3 := hS.out.r2
        have hm := dv_more hS.out a1 a2 a3 a4 (by have := HY.out; omega) (by assumption) (by assumption)
        have hst := dv_stop hS.out a1 a3
        have pq : 0 ≤ q * y0 := Int.mul_nonneg p0 a3
        have pq2 : q * y0 ≤ 4294967297 * 4294967295 := Int.mul_le_mul p1 (by omega) a3 (by omega)
        have w1 : IntKind.u64.wrap (q * y0) = q * y0 := wrapU_id pq (by omega)
        have w2 : IntKind.u64.wrap (4294967296 * r) = 4294967296 * r := wrapU_id (by omega) (by omega)
        have w3 : IntKind.u64.wrap (4294967296 * r + v1) = 4294967296 * r + v1 := wrapU_id (by omega) (by omega)
        have w4 : IntKind.u64.wrap (r + y1) = r + y1 := wrapU_id (by omega) (by omega)
        have HG : Hid _ := hg
        rw [← HY.out] at hm hst
        clear hg
        by_cases c1 : 4294967296 ≤ q
        · obtain ⟨q1, m1, m2⟩ := hm (Or.inl c1)
          have w5 : IntKind.u64.wrap (q - 1) = q - 1 := wrapU_id (by omega) (by omega)
          have m1 : Hid _ := m1
          have m2 : Hid _ := m2
          clear hst
          by_cases c2 : 4294967296 ≤ r + y1
          · go_wp2
            go_meet
            exact ⟨⟨_, rfl⟩, rfl, rfl⟩
          · go_wp2
            go_roundg (q - 1).toNat
            case measure => rw [HG.out]; omega
            case rel => exact ⟨q - 1, r + y1, rfl, rfl, rfl, m1.out (by omega), rfl⟩
        · by_cases c3 : 4294967296 * r + v1 < q * y0
          · obtain ⟨q1, m1, m2⟩ := hm (Or.inr c3)
            have w5 : IntKind.u64.wrap (q - 1) = q - 1 := wrapU_id (by omega) (by omega)
            have m1 : Hid _ := m1
            have m2 : Hid _ := m2
            clear hst
            by_cases c2 : 4294967296 ≤ r + y1
            · go_wp2
              go_meet
              exact ⟨⟨_, rfl⟩, rfl, rfl⟩
            · go_wp2
              go_roundg (q - 1).toNat
              case measure => rw [HG.out]; omega
              case rel => exact ⟨q - 1, r + y1, rfl, rfl, rfl, m1.out (by omega), rfl⟩
          · have he := hst (by omega)
            have HE : Hid _ := he
            clear hm hst he
            go_wp2
            go_meet
            exact ⟨⟨_, rfl⟩, congrArg (Value.int .u64) HE.out, rfl⟩
    obtain ⟨⟨r1, rfl⟩, rfl, h'⟩ := hcut
    subst wc
    clear S1 b1 b2 hl eY el eu m0 n0 hy1 hv1 z1
    obtain ⟨q1, hq1⟩ : ∃ q1, (u * 4294967296 + v1) / Y = q1 := ⟨_, rfl⟩
    have eL := left64 (u := u) (v := v1) (q := q1) (Y := Y) (by omega) Y2 hq1.symm
    have c0 := Int.emod_nonneg (u * 4294967296 + v1) (show Y ≠ 0 by omega)
    have c1 := Int.emod_lt_of_pos (u * 4294967296 + v1) (show 0 < Y by omega)
    have g1 : 0 ≤ q1 := by rw [← hq1]; exact Int.ediv_nonneg (by omega) (by omega)
    have g2 : q1 < 4294967296 := by
      rw [← hq1]
      exact (Int.ediv_lt_iff_lt_mul (by omega)).2 (by omega)
    obtain ⟨x, hx⟩ : ∃ x, (u * 4294967296 + v1) % Y = x := ⟨_, rfl⟩
    rw [hx] at eL c0 c1
    rw [hq1]
    have HQ : Hid _ := hq1
    have HX : Hid _ := hx
    clear hq1 hx
    have T2 := dv_start (y1 := y1) (y0 := y0) (u := x) (v := v0) a1 a2 a3 a4 c0 (by have := HY.out; omega) a7 a8
    have b1 : IntKind.u64.wrap (x.tdiv y1) = x / y1 := by
      rw [Int.tdiv_eq_ediv_of_nonneg c0]
      exact wrapU_id T2.q0 (by have := T2.q2; omega)
    have b2 : IntKind.u64.wrap (x - IntKind.u64.wrap (x / y1 * y1)) = x - x / y1 * y1 := by
      have e := T2.e
      have r0 := T2.r0
      have r2 := T2.r2
      have : 0 ≤ x / y1 * y1 := Int.mul_nonneg T2.q0 (by omega)
      rw [wrapU_id this (by omega), wrapU_id r0 (by omega)]
    have z1 : y1 ≠ 0 := by omega
    obtain ⟨q, hq⟩ : ∃ q, x / y1 = q := ⟨_, rfl⟩
    obtain ⟨r, hr⟩ : ∃ r, x - q * y1 = r := ⟨_, rfl⟩
    rw [hq] at b1 b2 T2
    rw [hr] at b2 T2
    have S2 : Hid _ := T2
    clear T2
    clear hq hr
    go_upto_block 2 with fail
    go_cut [18, 16] from 19 (fun sq sr wx => (∃ r, sr = .int .u64 r) ∧ sq = .int .u64 ((x * 4294967296 + v0) / Y) ∧ wx = w)
    case first =>
      go_wp2_with fail
      go_loopg [18, 16] q.toNat (fun g sq sr wr => ∃ q r : Int, g = q.toNat ∧ sq = .int .u64 q ∧ sr = .int .u64 r ∧ Hid (DvS y1 y0 x v0 q r) ∧ wr = w)
      case atStart => exact ⟨q, r, rfl, rfl, rfl, S2, rfl⟩
      case round =>
        clear S2 b1 b2
        obtain ⟨q, r, hg, rfl, rfl, hS, h'⟩ := hrel
        subst wr
        have p0 := hS.out.q0
        have p1 := hS.out.q2
        have p2 := hS.out.r0
        have p3 := hS.out.r2
        have hm := dv_more hS.out a1 a2 a3 a4 (by have := HY.out; omega) (by assumption) (by assumption)
        have hst := dv_stop hS.out a1 a3
        have pq : 0 ≤ q * y0 := Int.mul_nonneg p0 a3
        have pq2 : q * y0 ≤ 4294967297 * 4294967295 := Int.mul_le_mul p1 (by omega) a3 (by omega)
        have w1 : IntKind.u64.wrap (q * y0) = q * y0 := wrapU_id pq (by omega)
        have w2 : IntKind.u64.wrap (4294967296 * r) = 4294967296 * r := wrapU_id (by omega) (by omega)
        have w3 : IntKind.u64.wrap (4294967296 * r + v0) = 4294967296 * r + v0 := wrapU_id (by omega) (by omega)
        have w4 : IntKind.u64.wrap (r + y1) = r + y1 := wrapU_id (by omega) (by omega)
        have HG : Hid _ := hg
        rw [← HY.out] at hm hst
        clear hg
        by_cases c1 : 4294967296 ≤ q
        · obtain ⟨q1, m1, m2⟩ := hm (Or.inl c1)
          have w5 : IntKind.u64.wrap (q - 1) = q - 1 := wrapU_id (by omega) (by omega)
          have m1 : Hid _ := m1
          have m2 : Hid _ := m2
          clear hst
          by_cases c2 : 4294967296 ≤ r + y1
          · go_wp2
            go_meet
            exact ⟨⟨_, rfl⟩, rfl, rfl⟩
          · go_wp2
            go_roundg (q - 1).toNat
            case measure => rw [HG.out]; omega
            case rel => exact ⟨q - 1, r + y1, rfl, rfl, rfl, m1.out (by omega), rfl⟩
        · by_cases c3 : 4294967296 * r + v0 < q * y0
          · obtain ⟨q1, m1, m2⟩ := hm (Or.inr c3)
            have w5 : IntKind.u64.wrap (q - 1) = q - 1 := wrapU_id (by omega) (by omega)
            have m1 : Hid _ := m1
            have m2 : Hid _ := m2
            clear hst
            by_cases c2 : 4294967296 ≤ r + y1
            · go_wp2
              go_meet
              exact ⟨⟨_, rfl⟩, rfl, rfl⟩
            · go_wp2
              go_roundg (q - 1).toNat
              case measure => rw [HG.out]; omega
              case rel => exact ⟨q - 1, r + y1, rfl, rfl, rfl, m1.out (by omega), rfl⟩
          · have he := hst (by omega)
            have HE : Hid _ := he
            clear hm hst he
            go_wp2
            go_meet
            exact ⟨⟨_, rfl⟩, congrArg (Value.int .u64) HE.out, rfl⟩
    obtain ⟨⟨r2, rfl⟩, rfl, h'⟩ := hcut
    subst wc
    clear S2 b1 b2 z1 eL
    obtain ⟨q0, hq0⟩ : ∃ q0, (x * 4294967296 + v0) / Y = q0 := ⟨_, rfl⟩
    have k1 : 0 ≤ q0 := by rw [← hq0]; exact Int.ediv_nonneg (by omega) (by omega)
    have k2 : q0 < 4294967296 := by
      rw [← hq0]
      exact (Int.ediv_lt_iff_lt_mul (by omega)).2 (by omega)
    have w1 : IntKind.u64.wrap (q1 * 4294967296) = q1 * 4294967296 := wrapU_id (by omega) (by omega)
    have w2 : IntKind.u64.wrap (q1 * 4294967296 + q0) = q1 * 4294967296 + q0 := wrapU_id (by omega) (by omega)
    have HF : Hid (q1 * 4294967296 + q0 = (R : Int)) := (show _ = _ by
      have e := dv_both (Y := Y) (u := u) (v1 := v1) (v0 := v0) (by omega)
      have h1 := HQ.out
      have h2 := HX.out
      have h3 := HR.out
      have h4 := HL.out
      rw [h1, h2, hq0] at e
      rw [e, ← h3, h4]
      congr 1
      omega)
    have hrest := left64 (u := x) (v := v0) (q := q0) (Y := Y) (by omega) Y2 hq0.symm
    have HRR : Hid ((x * 4294967296 + v0) % Y / 2 ^ s = rr) := (show _ = _ by have h1 := hrr.out; have h2 := HX.out; rw [h2] at h1; exact h1)
    rw [hq0]
    clear hq0
    generalize (x * 4294967296 + v0) % Y = zz at *
    go_wp2
    go_ret2
    exact ⟨ret2U HF.out HRR.out, 0, rfl⟩
end Go.Proofs.YtnclddfljghebaaGreatDoor

namespace Go.Proofs.YtnclddfljghebaaGreatDoor
open Go.RowKit

/-- A row taken off so far. -/
def TakR (fo : Nat → Nat) (X : Nat → Nat) (b k : Nat) (out : List Nat) (c : Nat) : Prop := Lm out ∧ out.length = k ∧ c < 18446744073709551616 ∧ Took (vF k fo) (X k) b (2 ^ (64 * k)) (vl out) c
theorem takR_nil (fo X : Nat → Nat) (b : Nat) (h : X 0 = 0) : TakR fo X b 0 [] 0 := ⟨fun x hx => by simp at hx, rfl, by omega, by unfold Took; rw [h]; simp [vF, vl]⟩
theorem takR_step {fo X : Nat → Nat} {b k c x l h s d : Nat} {out : List Nat} (hR : TakR fo X b k out c) (hX : X (k + 1) = X k + 2 ^ (64 * k) * x) (hs : s < 18446744073709551616) (hp : x * b + c = l + 18446744073709551616 * h) (he : s + l = fo k + 18446744073709551616 * d) (hc : h + d < 18446744073709551616) :
    TakR fo X b (k + 1) (out ++ [s]) (h + d) := by
  obtain ⟨h1, h2, _, h4⟩ := hR
  refine ⟨h1.snoc hs, by simp [h2], hc, ?_⟩
  rw [vl_append, h2, pow64_succ, vF, hX]
  have := took_step h4 hp he
  simpa [vl] using this
theorem takR_over {fo X : Nat → Nat} {b k c s d : Nat} {out : List Nat} (hR : TakR fo X b k out c) (hX : X (k + 1) = X k) (hs : s < 18446744073709551616) (he : s + c = fo k + 18446744073709551616 * d) (hc : d < 18446744073709551616) :
    TakR fo X b (k + 1) (out ++ [s]) d := by
  obtain ⟨h1, h2, _, h4⟩ := hR
  refine ⟨h1.snoc hs, by simp [h2], hc, ?_⟩
  rw [vl_append, h2, pow64_succ, vF, hX]
  have := took_over h4 he
  simpa [vl] using this
theorem sub64_ex (x y : Int) (x0 : 0 ≤ x) (x1 : x < 18446744073709551616) (y0 : 0 ≤ y) (y1 : y < 18446744073709551616) :
    ∃ s d : Nat, s < 18446744073709551616 ∧ d ≤ 1 ∧ (s : Int) + y = x + 18446744073709551616 * d ∧ (d = if x < y then 1 else 0) ∧ ∀ w, (callFunc 119 #[.int .u64 x, .int .u64 y, .int .u64 0]).run Tryz.prog w = .ok (.value (.tuple #[.int .u64 s, .int .u64 d])) w := by
  obtain ⟨a, rfl⟩ : ∃ a : Nat, x = a := ⟨x.toNat, by omega⟩
  obtain ⟨b, rfl⟩ : ∃ b : Nat, y = b := ⟨y.toNat, by omega⟩
  refine ⟨(a + 18446744073709551616 - b - 0) % 18446744073709551616, if a < b + 0 then 1 else 0, Nat.mod_lt _ (by omega), by split <;> omega, by split <;> omega, ?_, fun w => sub64_run a b 0 (by omega) w⟩
  by_cases h : a < b
  · rw [if_pos (by omega), if_pos (by omega)]
  · rw [if_neg (by omega), if_neg (by omega)]
/-- What takeTimes leaves. -/
def GaveT (w : World) (g L : Nat) (f : Nat → Nat) (off m X b : Nat) (e : Ending) (w' : World) : Prop :=
  ∃ out c, e = .returned (.int .u64 ((c : Nat) : Int)) ∧ Lm out ∧ out.length = m ∧ c ≤ 1 ∧ vl out + X * b = vF m (fun j => f (off + j)) + 2 ^ (64 * m) * c ∧ FRow w' g L (laidF f off m out) ∧ Keep g w w'

set_option maxRecDepth 100000 in
set_option maxHeartbeats 1000000 in
theorem takeTimes_any (g L off m b cap capT : Nat) (f : Nat → Nat) (xs : List Nat) (ao : Option Addr) (w : World) (hrow : FRow w g L f) (hf : ∀ j, j < m → f (off + j) < 18446744073709551616) (hr : LRow w ao xs) (ha : Apt g ao) (hL : Lm xs)
    (hm : xs.length < m) (hoff : off + m ≤ L) (hn : m ≤ 200000) (hb : b < 18446744073709551616) (hct : m ≤ capT) :
    Calls Tryz.prog 106 #[.slice (some ⟨g, off, none⟩) m capT, .slice ao xs.length cap, .int .u64 b] w (GaveT w g L f off m (vl xs) b) := by
  have HF : Hid (∀ j, j < m → f (off + j) < 18446744073709551616) := hf
  have HX0 : Hid (∀ k, k < xs.length → vl (xs.take (k + 1)) = vl (xs.take k) + 2 ^ (64 * k) * xs.getD k 0) := fun k hk => vl_take_succ hk
  have HX1 : Hid (∀ k, xs.length ≤ k → vl (xs.take (k + 1)) = vl (xs.take k)) := fun k hk => by rw [List.take_of_length_le (by omega), List.take_of_length_le hk]
  have HXe : Hid (vl (xs.take m) = vl xs) := (show _ = _ by rw [List.take_of_length_le (by omega)])
  clear hf
  have i1 : (xs.length : Int) ≤ (capT : Int) := by omega
  have i2 : (xs.length : Int) ≤ (m : Int) := by omega
  have i3 : (m : Int) ≤ (capT : Int) := by omega
  have i4 : ¬ capT = xs.length := by omega
  have i5 : ((m : Int) - (xs.length : Int)).toNat = m - xs.length := by omega
  go_enter Tryz.func106, Tryz.ntmps106
  go_upto_region 2 with fail
  go_quiet (fail)
  have hrow := (Alike.drewN nq).frow hrow
  have hkp := (Alike.drewN (w := w) nq).keep g
  generalize w.drewN nq = w1 at *
  go_wp2
  clear i1 i3 i4 i5
  go_loopg [7, 25] xs.length (fun gg cv i wr => ∃ (k : Nat) (out : List Nat) (c : Nat), k ≤ xs.length ∧ gg = xs.length - k ∧ i = .int .i64 k ∧ cv = .int .u64 c ∧ Hid (TakR (fun j => f (off + j)) (fun k => vl (xs.take k)) b k out c) ∧ FRow wr g L (laidF f off k out) ∧ Keep g w wr)
  case atStart => exact ⟨0, [], 0, Nat.zero_le _, rfl, rfl, rfl, takR_nil _ _ _ (by simp [vl]), hrow.congr (fun j _ => (laidF_zero f off [] j).symm), hkp⟩
  case round =>
    obtain ⟨k, out, c, hk, hg, rfl, rfl, hR, hrw, hkw⟩ := hrel
    clear hrow hkp
    have kc : c < 18446744073709551616 := hR.out.2.2.1
    have hol : out.length = k := hR.out.2.1
    by_cases hlt : k < xs.length
    · rcases hkw.lrow hr ha with h | ⟨bx, ox, rfl, hc⟩
      · omega
      · have g1 := hc k hlt
        have kx := hL.getD k
        have ky := HF.out k (by omega)
        have g2 : wr.cell? ⟨g, off + k, none⟩ = some (.int .u64 ((laidF f off k out (off + k) : Nat) : Int)) := World.rowIs.cell hrw (by omega)
        have g3 := World.rowIs.frozen hrw (off + k)
        have e2 : laidF f off k out (off + k) = f (off + k) := by unfold laidF; rw [if_neg (by omega)]
        rw [e2] at g2
        have HXk := HX0.out k hlt
        obtain ⟨x, hx⟩ : ∃ x, xs.getD k 0 = x := ⟨_, rfl⟩
        obtain ⟨y, hy⟩ : ∃ y, f (off + k) = y := ⟨_, rfl⟩
        rw [hx] at g1 kx HXk
        rw [hy] at g2 ky
        have hm' := mul64_any (x : Int) (b : Int) (by omega) (by omega) (by omega) (by omega) wr
        have p0 : 0 ≤ (x : Int) * b := Int.mul_nonneg (by omega) (by omega)
        have p1 : (x : Int) * b ≤ 18446744073709551615 * 18446744073709551615 := Int.mul_le_mul (by omega) (by omega) (by omega) (by omega)
        obtain ⟨P, hP⟩ : ∃ P, x * b + c = P := ⟨_, rfl⟩
        have hPI : (x : Int) * b + c = (P : Int) := by rw [← hP, Int.natCast_add, Int.natCast_mul]
        have hcar := took_carry (l := P % 18446744073709551616) (h := P / 18446744073709551616) (t := y) kx hb kc (by rw [hP]; omega) (Nat.mod_lt _ (by omega))
        generalize (x : Int) * (b : Int) = p at *
        obtain ⟨s, d, s1, d1, sd, dd, hsub⟩ := sub64_ex (y : Int) ((p + c) % 18446744073709551616) (by omega) (by omega) (by omega) (by omega)
        have dN : d = if y < P % 18446744073709551616 then 1 else 0 := by
          rw [dd]
          by_cases h : y < P % 18446744073709551616
          · rw [if_pos h, if_pos (by omega)]
          · rw [if_neg h, if_neg (by omega)]
        rw [← dN] at hcar
        have HS : Hid (TakR (fun j => f (off + j)) (fun k => vl (xs.take k)) b (k + 1) (out ++ [s]) (P / 18446744073709551616 + d)) := takR_step (l := P % 18446744073709551616) hR.out HXk s1 (by rw [hP]; omega) (by rw [hy]; omega) hcar
        have HV : Hid (((P / 18446744073709551616 + d : Nat) : Int) = p / 18446744073709551616 + (p % 18446744073709551616 + c) / 18446744073709551616 + d) := (show _ = _ by omega)
        have ha1 := fun w => add64_0 (p % 18446744073709551616) (c : Int) (by omega) (by omega) w
        have ha3 := fun w => add64_up (p / 18446744073709551616) ((p % 18446744073709551616 + c) / 18446744073709551616) (by omega) (by omega) (by omega) (by omega) w
        have ha4 := fun w => add64_up (p / 18446744073709551616 + (p % 18446744073709551616 + c) / 18446744073709551616) (d : Int) (by omega) (by omega) (by omega) (by omega) w
        have hset := hrw.set (off + k) s
        have hks := fun v => hkw.setCell (off + k) (.int .u64 v)
        clear hc hr hx hy hrw hkw e2 hR HF HX0 HX1 HXe hP hPI hcar dN dd sd HXk
        go_wp2_with (go_at_call 123; refine hm'.mono ?_; rintro e w' ⟨rfl, hww⟩; subst hww)
        go_roundg (xs.length - (k + 1))
        case measure => omega
        case rel =>
          refine ⟨k + 1, _, _, by omega, rfl, by go_num, ?_, HS, hset.congr (fun j _ => laidF_snoc hol _ j), hks _⟩
          rw [HV.out]
    · have hkk : k = xs.length := by omega
      subst hkk
      clear hg hlt hk
      go_wp2
      have i6 : ((m : Int) - (xs.length : Int)) = ((m - xs.length : Nat) : Int) := by omega
      go_loopg [7, 70] (m - xs.length) (fun gg cv i wr => ∃ (k : Nat) (out : List Nat) (c : Nat), k ≤ m - xs.length ∧ gg = m - xs.length - k ∧ i = .int .i64 k ∧ cv = .int .u64 c ∧ (0 < k → c ≤ 1) ∧ Hid (TakR (fun j => f (off + j)) (fun k => vl (xs.take k)) b (xs.length + k) out c) ∧ FRow wr g L (laidF f off (xs.length + k) out) ∧ Keep g w wr)
      case atStart => exact ⟨0, out, c, Nat.zero_le _, rfl, rfl, rfl, fun h => by omega, hR, hrw, hkw⟩
      case round =>
        clear hR hrw hkw hol kc
        obtain ⟨k, out, c, hk, hg, rfl, rfl, hc1, hR, hrw, hkw⟩ := hrel
        have kc : c < 18446744073709551616 := hR.out.2.2.1
        have hol : out.length = xs.length + k := hR.out.2.1
        by_cases hlt : k < m - xs.length
        · have ky := HF.out (xs.length + k) (by omega)
          have g2 : wr.cell? ⟨g, off + (xs.length + k), none⟩ = some (.int .u64 ((laidF f off (xs.length + k) out (off + (xs.length + k)) : Nat) : Int)) := World.rowIs.cell hrw (by omega)
          have g3 := World.rowIs.frozen hrw (off + (xs.length + k))
          have e2 : laidF f off (xs.length + k) out (off + (xs.length + k)) = f (off + (xs.length + k)) := by unfold laidF; rw [if_neg (by omega)]
          rw [e2] at g2
          have HXk := HX1.out (xs.length + k) (by omega)
          obtain ⟨y, hy⟩ : ∃ y, f (off + (xs.length + k)) = y := ⟨_, rfl⟩
          rw [hy] at g2 ky
          rw [← Nat.add_assoc] at g2 g3
          obtain ⟨s, d, s1, d1, sd, dd, hsub⟩ := sub64_ex (y : Int) (c : Int) (by omega) (by omega) (by omega) (by omega)
          have HS : Hid (TakR (fun j => f (off + j)) (fun k => vl (xs.take k)) b (xs.length + (k + 1)) (out ++ [s]) d) := takR_over (k := xs.length + k) hR.out HXk s1 (by show s + c = f (off + (xs.length + k)) + _; rw [hy]; omega) (by omega)
          have hset := hrw.set (off + (xs.length + k)) s
          have hks := fun v => hkw.setCell (off + (xs.length + k)) (.int .u64 v)
          rw [← Nat.add_assoc] at hset hks
          have j1 : (k : Int) < ((m - xs.length : Nat) : Int) := by omega
          clear hr hy hrw hkw e2 hR HF HX0 HX1 HXe dd sd HXk hc1
          go_wp2
          go_roundg (m - xs.length - (k + 1))
          case measure => omega
          case rel =>
            refine ⟨k + 1, _, _, by omega, rfl, by go_num, rfl, fun _ => d1, HS, hset.congr (fun j _ => ?_), hks _⟩
            rw [Nat.add_assoc]
            exact laidF_snoc hol _ j
        · have hkk : xs.length + k = m := by omega
          have hc2 := hc1 (by omega)
          have hT := hR.out.2.2.2
          have hL2 := hR.out.1
          have HG : Hid (vl out + vl xs * b = vF m (fun j => f (off + j)) + 2 ^ (64 * m) * c) := (show _ = _ by
            have h1 : vl out + vl (xs.take m) * b = vF m (fun j => f (off + j)) + 2 ^ (64 * m) * c := by
              have h2 := hT
              unfold Took at h2
              rw [hkk] at h2
              exact h2
            rw [HXe.out] at h1
            exact h1)
          rw [hkk] at hrw hol
          have j1 : ¬ (k : Int) < ((m - xs.length : Nat) : Int) := by omega
          clear hT hR
          go_wp2
          go_ret
          exact ⟨out, c, rfl, hL2, hol, hc2, HG.out, hrw, hkw⟩
/-- The answer of addTimes: the limbs laid down, what is carried; nothing else has turned. -/
def GaveK (w : World) (g L : Nat) (f : Nat → Nat) (off : Nat) (t xs : List Nat) (b : Nat) (e : Ending) (w' : World) : Prop :=
  ∃ out c : _, e = .returned (.int .u64 ((c : Nat) : Int)) ∧ Rowed t xs b xs.length out c ∧ FRow w' g L (laidF f off xs.length out) ∧ Keep g w w'
set_option maxHeartbeats 1000000 in
theorem addTimesK_any (w : World) (xs t : List Nat) (ao : Option Addr) (cap capT g L off b : Nat) (f : Nat → Nat) (hr : LRow w ao xs) (ha : Apt g ao) (hrow : FRow w g L f)
    (hL : Lm xs) (ht : Lm t) (htl : t.length = xs.length) (htf : ∀ j, j < xs.length → f (off + j) = t.getD j 0) (hoff : off + xs.length ≤ L) (hn : xs.length ≤ 100000) (hbv : b < 18446744073709551616) (hct : xs.length ≤ capT) (hct0 : capT ≠ 0) :
    Calls Tryz.prog 97 #[.slice (some ⟨g, off, none⟩) xs.length capT, .slice ao xs.length cap, .int .u64 b] w (GaveK w g L f off t xs b) := by
  have hb := Keep.refl g w
  have HF : Hid (∀ j, j < xs.length → f (off + j) = t.getD j 0) := htf
  clear htf
  go_enter Tryz.func97, Tryz.ntmps97
  go_wp2
  go_loopg [18, 7] xs.length (fun gg i cv wr => ∃ (k : Nat) (out : List Nat) (c : Nat), k ≤ xs.length ∧ gg = xs.length - k ∧ i = .int .i64 k ∧ cv = .int .u64 c ∧ Hid (Rowed t xs b k out c) ∧ FRow wr g L (laidF f off k out) ∧ Keep g w wr)
  case atStart => exact ⟨0, [], 0, Nat.zero_le _, rfl, rfl, rfl, rowed_nil _ _ _, hrow.congr (fun j _ => (laidF_zero f off [] j).symm), hb⟩
  case round =>
    obtain ⟨k, out, c, hk, hg, rfl, rfl, hR, hrw, hbw⟩ := hrel
    clear hrow hb
    by_cases hlt : k < xs.length
    · have hrx := hbw.lrow hr ha
      rcases hrx with h | ⟨bx, ox, rfl, hc⟩
      · omega
      · have g1 := hc k hlt
        have kx := hL.getD k
        have ky := ht.getD k
        have kc : c < 18446744073709551616 := hR.out.2.2.1
        have g2 : wr.cell? ⟨g, off + k, none⟩ = some (.int .u64 ((laidF f off k out (off + k) : Nat) : Int)) := World.rowIs.cell hrw (by omega)
        have g3 := World.rowIs.frozen hrw (off + k)
        have e2 : laidF f off k out (off + k) = t.getD k 0 := by unfold laidF; rw [if_neg (by omega)]; exact HF.out k hlt
        rw [e2] at g2
        have HS : Hid (Rowed t xs b (k + 1) (out ++ [(xs.getD k 0 * b + t.getD k 0 + c) % 18446744073709551616]) ((xs.getD k 0 * b + t.getD k 0 + c) / 18446744073709551616)) := rowed_step hR.out ht hL hbv hlt (by omega)
        have hol : out.length = k := hR.out.2.1
        obtain ⟨x, hx⟩ : ∃ x, xs.getD k 0 = x := ⟨_, rfl⟩
        obtain ⟨y, hy⟩ : ∃ y, t.getD k 0 = y := ⟨_, rfl⟩
        rw [hx, hy] at HS
        rw [hx] at g1 kx
        rw [hy] at g2 ky
        have hm := mul64_any (x : Int) (b : Int) (by omega) (by omega) (by omega) (by omega) wr
        have p0 : 0 ≤ (x : Int) * b := Int.mul_nonneg (by omega) (by omega)
        have ev : ((((x * b + y + c) % 18446744073709551616 : Nat)) : Int) = ((x : Int) * b + y + c) % 18446744073709551616 := by rw [Int.natCast_emod, Int.natCast_add, Int.natCast_add, Int.natCast_mul]; rfl
        have ec : ((((x * b + y + c) / 18446744073709551616 : Nat)) : Int) = ((x : Int) * b + y + c) / 18446744073709551616 := by rw [Int.natCast_ediv, Int.natCast_add, Int.natCast_add, Int.natCast_mul]; rfl
        have hset := hrw.set (off + k) ((x * b + y + c) % 18446744073709551616)
        rw [ev] at hset
        have p1 : (x : Int) * b ≤ 18446744073709551615 * 18446744073709551615 := Int.mul_le_mul (by omega) (by omega) (by omega) (by omega)
        generalize (x : Int) * (b : Int) = p at *
        have s2 : p / 18446744073709551616 + (p % 18446744073709551616 + y) / 18446744073709551616 + ((p + y) % 18446744073709551616 + c) / 18446744073709551616 = (p + y + c) / 18446744073709551616 := by omega
        have HV2 : Hid (((x * b + y + c) / 18446744073709551616 : Nat) = p / 18446744073709551616 + (p % 18446744073709551616 + y) / 18446744073709551616 + ((p + y) % 18446744073709551616 + c) / 18446744073709551616) := ec.trans s2.symm
        have ha1 := fun w => add64_0 (p % 18446744073709551616) (y : Int) (by omega) (by omega) w
        have ha2 := fun w => add64_0 ((p + y) % 18446744073709551616) (c : Int) (by omega) (by omega) w
        have ha3 := fun w => add64_up (p / 18446744073709551616) ((p % 18446744073709551616 + y) / 18446744073709551616) (by omega) (by omega) (by omega) (by omega) w
        have ha4 := fun w => add64_up (p / 18446744073709551616 + (p % 18446744073709551616 + y) / 18446744073709551616) (((p + y) % 18446744073709551616 + c) / 18446744073709551616) (by omega) (by omega) (by omega) (by omega) w
        have hbs := fun v => hbw.setCell (off + k) (.int .u64 v)
        clear hc hr hx hy hrw hbw s2 ev ec hR HF e2
        go_wp2_with (go_at_call 123; refine hm.mono ?_; rintro e w' ⟨rfl, hww⟩; subst hww)
        go_roundg (xs.length - (k + 1))
        case measure => omega
        case rel =>
          refine ⟨k + 1, _, _, by omega, rfl, by go_num, ?_, HS, hset.congr (fun j _ => laidF_snoc hol _ j), hbs _⟩
          rw [HV2.out]
    · have hkk : k = xs.length := by omega
      subst hkk
      go_wp2
      go_ret
      exact ⟨out, c, rfl, hR.out, hrw, hbw⟩
end Go.Proofs.YtnclddfljghebaaGreatDoor

namespace Go.Proofs.YtnclddfljghebaaGreatDoor
open Go.RowKit

/-- What takeOff leaves: the remainder, and how often. -/
def GaveO (w : World) (g L : Nat) (f : Nat → Nat) (off m U V : Nat) (e : Ending) (w' : World) : Prop :=
  ∃ out, e = .returned (.int .u64 ((U / V : Nat) : Int)) ∧ Lm out ∧ out.length = m ∧ vl out = U % V ∧ FRow w' g L (laidF f off m out) ∧ Keep g w w'
theorem vF_lt {n : Nat} {f : Nat → Nat} (h : ∀ j, j < n → f j < 18446744073709551616) : vF n f < 2 ^ (64 * n) := by
  have := vl_lt (toL_lm h)
  rw [toL_length, toL_vl] at this
  exact this
/-- The row taken off and put back: what holds meanwhile. -/
structure OffS (U V M q l : Nat) (out : List Nat) (n : Nat) : Prop where
  lm : Lm out
  len : out.length = n + 1
  l1 : l ≤ 1
  e : vl out + q * V = U + M * l
  g : U / V ≤ q
theorem OffS.stop {U V M q : Nat} {out : List Nat} {n : Nat} (h : OffS U V M q 0 out n) (hV : 0 < V) : q = U / V ∧ vl out = U % V := by
  have e := h.e
  have m := Nat.mod_add_div U V
  have hq : q ≤ U / V := (Nat.le_div_iff_mul_le hV).2 (by omega)
  have : q = U / V := Nat.le_antisymm hq h.g
  subst this
  rw [Nat.mul_comm] at m
  omega
theorem OffS.more {U V M q l : Nat} {out : List Nat} {n : Nat} (h : OffS U V M q l out n) (hl : l ≠ 0) (hM : M = 2 ^ (64 * (n + 1))) (_hV : 0 < V) : 1 ≤ q ∧ U / V ≤ q - 1 := by
  have e := h.e
  have b := vl_lt h.lm
  rw [h.len, ← hM] at b
  have l1 : l = 1 := by have := h.l1; omega
  subst l1
  have hq : U / V < q := by
    refine Nat.lt_of_not_le fun hle => ?_
    have := Nat.mul_le_mul_right V hle
    have := Nat.div_mul_le_self U V
    omega
  generalize U / V = k at *
  omega
theorem OffS.next {U V M q c : Nat} {out o2 ys : List Nat} {n : Nat} (h : OffS U V M q 1 out n) (hM : M = 2 ^ (64 * (n + 1))) (hV : V = vl ys) (hl : ys.length = n) (hq : 1 ≤ q) (hg : U / V ≤ q - 1) (hR : Rowed (out.take n) ys 1 n o2 c) :
    OffS U V M (q - 1) (1 - (out.getD n 0 + c) / 18446744073709551616) (o2 ++ [(out.getD n 0 + c) % 18446744073709551616]) n ∧ (out.getD n 0 + c) / 18446744073709551616 ≤ 1 := by
  obtain ⟨r1, r2, r3, r4⟩ := hR
  have hy := h.lm.getD n
  rw [List.take_of_length_le (show (out.take n).length ≤ n by rw [List.length_take]; omega), List.take_of_length_le (show ys.length ≤ n by omega), Nat.mul_one, ← hV] at r4
  have e1 := vl_take_succ (xs := out) (k := n) (by rw [h.len]; omega)
  rw [List.take_of_length_le (by rw [h.len]; omega)] at e1
  obtain ⟨y, hyy⟩ : ∃ y, out.getD n 0 = y := ⟨_, rfl⟩
  rw [hyy] at hy e1 ⊢
  have d1 : (y + c) / 18446744073709551616 ≤ 1 := by omega
  have e2 : vl (o2 ++ [(y + c) % 18446744073709551616]) = vl o2 + 2 ^ (64 * n) * ((y + c) % 18446744073709551616) := by rw [vl_append, r2]; simp [vl]
  have em := Nat.mod_add_div (y + c) 18446744073709551616
  refine ⟨⟨r1.snoc (Nat.mod_lt _ (by omega)), by simp [r2], by omega, ?_, hg⟩, d1⟩
  have e := h.e
  rw [e2]
  rw [pow64_succ] at hM
  generalize (y + c) % 18446744073709551616 = s at *
  generalize (y + c) / 18446744073709551616 = d at *
  generalize 2 ^ (64 * n) = P at *
  have f1 : P * s + 18446744073709551616 * P * d = P * y + P * c := by
    rw [Nat.mul_comm 18446744073709551616 P, Nat.mul_assoc, ← Nat.mul_add, em, Nat.mul_add]
  have f2 : (q - 1) * V + V = q * V := by
    obtain ⟨k, rfl⟩ : ∃ k, q = k + 1 := ⟨q - 1, by omega⟩
    rw [Nat.add_sub_cancel, Nat.add_mul, Nat.one_mul]
  rw [← hM] at f1
  have hd : d = 0 ∨ d = 1 := by omega
  rcases hd with rfl | rfl
  · omega
  · omega
theorem laid_twice {f : Nat → Nat} {off n : Nat} {out o2 : List Nat} {s : Nat} (h2 : o2.length = n) (j : Nat) : (if j = off + n then s else laidF (laidF f off (n + 1) out) off n o2 j) = laidF f off (n + 1) (o2 ++ [s]) j := by
  rw [← laidF_snoc h2]
  by_cases h : j = off + n
  · rw [if_pos h, if_pos h]
  · rw [if_neg h, if_neg h]
    unfold laidF
    by_cases h3 : off ≤ j ∧ j < off + n
    · rw [if_pos h3, if_pos h3]
    · rw [if_neg h3, if_neg h3, if_neg (by omega)]
theorem top_two {n : Nat} {fo : Nat → Nat} (h : ∀ j, j < n + 2 → fo j < 18446744073709551616) : vF (n + 2) fo < (fo (n + 1) * 18446744073709551616 + fo n + 1) * 2 ^ (64 * n) := by
  have a := vF_lt (n := n) (f := fo) (fun j hj => h j (by omega))
  rw [vF, vF, pow64_succ]
  generalize 2 ^ (64 * n) = P at *
  have e : (fo (n + 1) * 18446744073709551616 + fo n + 1) * P = 18446744073709551616 * P * fo (n + 1) + P * fo n + P := by grind
  omega
theorem top_one {ys : List Nat} {n : Nat} (hl : ys.length = n + 1) : ys.getD n 0 * 2 ^ (64 * n) ≤ vl ys := by
  have e1 := vl_take_succ (xs := ys) (k := n) (by omega)
  rw [List.take_of_length_le (by omega)] at e1
  rw [e1, Nat.mul_comm]
  omega
set_option maxRecDepth 100000 in
set_option maxHeartbeats 1000000 in
theorem takeOff_any (g L off cap capT : Nat) (f : Nat → Nat) (ys : List Nat) (bo : Option Addr) (w : World) (hrow : FRow w g L f) (hf : ∀ j, j < ys.length + 1 → f (off + j) < 18446744073709551616) (hr : LRow w bo ys) (ha : Apt g bo) (hM : Lm ys)
    (n0 : 0 < ys.length) (hoff : off + (ys.length + 1) ≤ L) (hn : ys.length ≤ 100000) (hct : ys.length + 1 ≤ capT) (hV : 0 < vl ys) (hU : vF (ys.length + 1) (fun j => f (off + j)) < vl ys * 18446744073709551616) :
    Calls Tryz.prog 81 #[.slice (some ⟨g, off, none⟩) (ys.length + 1) capT, .slice bo ys.length cap] w (GaveO w g L f off (ys.length + 1) (vF (ys.length + 1) (fun j => f (off + j))) (vl ys)) := by
  obtain ⟨n, en⟩ : ∃ n, ys.length = n + 1 := ⟨ys.length - 1, by omega⟩
  obtain ⟨U, eU⟩ : ∃ U, vF (ys.length + 1) (fun j => f (off + j)) = U := ⟨_, rfl⟩
  have HF : Hid (∀ j, j < ys.length + 1 → f (off + j) < 18446744073709551616) := hf
  have g1 := hrow.cell (i := off + ys.length) (by omega)
  have g2 := hrow.cell (i := off + n) (by omega)
  have l1 := hf ys.length (by omega)
  have l2 := hf n (by omega)
  have l3 := hM.getD n
  have HT : Hid (U < (f (off + (n + 1)) * 18446744073709551616 + f (off + n) + 1) * 2 ^ (64 * n)) := (show _ < _ by
    rw [← eU, en]
    exact top_two (fo := fun j => f (off + j)) (fun j hj => hf j (by omega)))
  have HT2 : Hid (ys.getD n 0 * 2 ^ (64 * n) ≤ vl ys) := top_one en
  have HQ : Hid (U / vl ys ≤ 18446744073709551615) := (show _ ≤ _ by
    have : U / vl ys < 18446744073709551616 := Nat.div_lt_of_lt_mul (by rw [← eU]; exact hU)
    omega)
  rw [eU]
  have HU : Hid _ := eU
  clear eU hU hf
  have hrr := hr
  rcases hrr with h | ⟨b, o, rfl, hc⟩
  · omega
  have g3 := hc n (by omega)
  clear hc
  rw [← en] at HT
  obtain ⟨u1, e1⟩ : ∃ u1, f (off + ys.length) = u1 := ⟨_, rfl⟩
  obtain ⟨u0, e0⟩ : ∃ u0, f (off + n) = u0 := ⟨_, rfl⟩
  obtain ⟨v, ev⟩ : ∃ v, ys.getD n 0 = v := ⟨_, rfl⟩
  rw [e1] at l1 HT
  rw [e0] at l2 HT
  rw [ev] at l3 g3 HT2
  replace g1 : w.cell? ⟨g, off + ys.length, none⟩ = some (.int .u64 u1) := by rw [g1, e1]
  replace g2 : w.cell? ⟨g, off + n, none⟩ = some (.int .u64 u0) := by rw [g2, e0]
  clear e1 e0 ev
  have i1 : (ys.length : Int) - 1 = (n : Int) := by omega
  have i2 : (n : Int) < (ys.length : Int) := by omega
  have i3 : (n : Int) < (ys.length : Int) + 1 := by omega
  have i4 : (ys.length : Int) < (ys.length : Int) + 1 := by omega
  have i5 : n < ys.length + 1 := by omega
  have i6 : n ≤ ys.length := by omega
  have i7 : (n : Int) ≤ (ys.length : Int) := by omega
  have i8 : (n : Int) < ((ys.length + 1 : Nat) : Int) := by omega
  have i9 : n < ys.length := by omega
  have hw64 : IntKind.i64.wrap ((ys.length : Int) - 1) = (n : Int) := by rw [IntKind.wrap_i64]; omega
  have hwn : IntKind.i64.wrap (n : Int) = (n : Int) := by rw [IntKind.wrap_i64]; omega
  have EN : Hid _ := en
  clear en
  go_enter Tryz.func81, Tryz.ntmps81
  go_upto_region 3 with fail
  go_quiet (fail)
  have A0 := Alike.drewN (w := w) nq
  generalize w.drewN nq = wA at *
  replace g1 := (A0.cell _).trans g1
  replace g2 := (A0.cell _).trans g2
  replace g3 := (A0.cell _).trans g3
  go_upto_if 20 with fail
  go_cut [6] from 9 (fun s6 wx => ∃ q : Nat, s6 = .int .u64 q ∧ q < 18446744073709551616 ∧ Hid (U / vl ys ≤ q) ∧ ∃ k, wx = wA.drewN k)
  case first =>
    by_cases hlt : u1 < v
    · have t1 : (u1 : Int) < (v : Int) := by omega
      obtain ⟨r, hd⟩ := div64_ex u1 u0 v hlt l3 l2
      have hq : (u1 * 18446744073709551616 + u0) / v < 18446744073709551616 := Nat.div_lt_of_lt_mul (by have := Nat.mul_le_mul_right 18446744073709551616 hlt; rw [Nat.succ_mul] at this; rw [Nat.mul_comm v]; omega)
      have HG : Hid (U / vl ys ≤ (u1 * 18446744073709551616 + u0) / v) := guess_ge (Nat.two_pow_pos _) (by omega) HT.out HT2.out
      obtain ⟨q, eq⟩ : ∃ q, (u1 * 18446744073709551616 + u0) / v = q := ⟨_, rfl⟩
      rw [eq] at hd hq HG
      clear eq
      have hdq : ∀ k, Calls Tryz.prog 105 #[.int .u64 u1, .int .u64 u0, .int .u64 v] (wA.drewN k) fun e w' => e = .returned (.tuple #[.int .u64 q, .int .u64 r]) ∧ ∃ k, w' = wA.drewN k := fun k => (hd _).mono fun e w' ⟨h1, m, h2⟩ => ⟨h1, _, h2.trans (World.drewN_drewN _ _ _)⟩
      go_upto_region 4 with fail
      go_quiet ((go_at_call 105; exact hdq _))
      go_wp2
      go_meet
      exact ⟨q, rfl, hq, HG, _, rfl⟩
    · have t1 : ¬ (u1 : Int) < (v : Int) := by omega
      go_wp2
      go_meet
      exact ⟨18446744073709551615, rfl, by omega, HQ, 0, rfl⟩
  obtain ⟨q, rfl, hq, HG, k, h'⟩ := hcut
  have A1 : Alike w wc := A0.trans (by rw [h']; exact Alike.drewN k)
  clear h' g1 g2 g3 i1 i2 i3 i5 i6 i7 i8 i9 hw64 hwn HT HT2 HQ l1 l2 l3 A0
  have hrow1 := A1.frow hrow
  have hk1 := A1.keep g
  have ct := takeTimes_any g L off (ys.length + 1) q cap capT f ys (some ⟨b, o, none⟩) wc hrow1 HF.out (A1.lrow hr) ha hM (by omega) hoff (by omega) hq hct
  have eM : Hid ((2 : Nat) ^ (64 * (ys.length + 1)) = 2 ^ (64 * (ys.length + 1))) := rfl
  obtain ⟨M, hMM⟩ : ∃ M, 2 ^ (64 * (ys.length + 1)) = M := ⟨_, rfl⟩
  have HMM : Hid _ := hMM
  clear hMM eM
  go_wp2_with (go_at_call 106; refine ct.mono ?_; rintro e w2 ⟨out, c, rfl, o1, o2, o3, o4, hrow2, hk2⟩)
  have hk3 := hk1.trans hk2
  have hS : Hid (OffS U (vl ys) M q c out ys.length) := ⟨o1, o2, o3, by have h1 := HMM.out; have h2 := HU.out; rw [h2, h1, Nat.mul_comm] at o4; exact o4, HG.out⟩
  clear ct hk1 hrow1 o1 o2 o3 o4 hk2 HG A1
  go_loopg [6, 7, 8] q (fun gg s6 s7 s8 wr => ∃ (q l : Nat) (out : List Nat), gg = q ∧ s6 = .int .u64 q ∧ s7 = .int .u64 l ∧ q < 18446744073709551616 ∧ Hid (OffS U (vl ys) M q l out ys.length) ∧ FRow wr g L (laidF f off (ys.length + 1) out) ∧ Keep g w wr)
  case atStart => exact ⟨q, c, out, rfl, rfl, rfl, hq, hS, hrow2, hk3⟩
  case round =>
    clear hS hrow2 hk3 hq
    obtain ⟨q, l, out, hg, rfl, rfl, hq, hS, hrw, hkw⟩ := hrel
    have HG : Hid _ := hg
    clear hg
    by_cases hl : l = 0
    · subst hl
      have hst := hS.out.stop hV
      have hl1 := hS.out.lm
      have hl2 := hS.out.len
      have HE : Hid _ := hst
      clear hst
      go_wp2
      go_ret
      exact ⟨out, congrArg (fun z : Nat => Ending.returned (.int .u64 (z : Int))) HE.out.1, hl1, hl2, HE.out.2, hrw, hkw⟩
    · have l1 : l = 1 := by have := hS.out.l1; omega
      subst l1
      obtain ⟨q1, q2⟩ := hS.out.more (by omega) HMM.out.symm hV
      have Q2 : Hid _ := q2
      clear q2
      have hol := hS.out.len
      have hlm := hS.out.lm
      obtain ⟨F, eF⟩ : ∃ F, laidF f off (ys.length + 1) out = F := ⟨_, rfl⟩
      have eFy : F (off + ys.length) = out.getD ys.length 0 := by rw [← eF]; unfold laidF; rw [if_pos (by omega), Nat.add_sub_cancel_left]
      have eFt : ∀ j, j < ys.length → F (off + j) = (out.take ys.length).getD j 0 := fun j hj => by
        rw [← eF]; unfold laidF; rw [if_pos (by omega), Nat.add_sub_cancel_left]
        simp only [List.getD_eq_getElem?_getD, List.getElem?_take, if_pos hj]
      rw [eF] at hrw
      have g1 := hrw.cell (i := off + ys.length) (by omega)
      have g2 := World.rowIs.frozen hrw (off + ys.length)
      have hyl := hlm.getD ys.length
      have hN := fun {c : Nat} {o2 : List Nat} => hS.out.next (c := c) (o2 := o2) (ys := ys) HMM.out.symm rfl rfl q1 Q2.out
      have hta : Lm (out.take ys.length) := hlm.take _
      have htl : (out.take ys.length).length = ys.length := by rw [List.length_take]; omega
      have ck := fun w' (hr' : FRow w' g L F) (hk' : Keep g w w') => addTimesK_any w' ys (out.take ys.length) (some ⟨b, o, none⟩) cap capT g L off 1 F (hk'.lrow hr ha) ha hr' hM hta htl eFt (by omega) (by omega) (by omega) (by omega) (by omega)
      rw [eFy] at g1
      obtain ⟨y, ey⟩ : ∃ y, out.getD ys.length 0 = y := ⟨_, rfl⟩
      rw [ey] at g1 hyl
      simp only [ey] at hN
      have HN : Hid _ := @hN
      have HFy : Hid _ := eFy
      have HeF : Hid _ := eF
      have HEy : Hid _ := ey
      clear hN eFy eF ey eFt hta htl
      have w1 : IntKind.u64.wrap ((q : Int) - 1) = ((q - 1 : Nat) : Int) := by rw [IntKind.wrap_u64]; omega
      have j1 : (ys.length : Int) ≤ (capT : Int) := by omega
      have j2 : (ys.length : Int) < (ys.length : Int) + 1 := by omega
      have ckd := ck wr.drew hrw hkw.drew
      go_upto_region 9 with fail
      go_region_with
        ((go_at_call 97; refine ckd.mono ?_; rintro e w3 ⟨o3, c3, rfl, hR, hrow3, hk3⟩; have kc : c3 < 18446744073709551616 := hR.2.2.1; have g3 := hrow3.cell (i := off + ys.length) (by omega); have g4 := World.rowIs.frozen hrow3 (off + ys.length); rw [show laidF F off ys.length o3 (off + ys.length) = y by unfold laidF; rw [if_neg (by omega), HFy.out, HEy.out]] at g3; have ha0 := fun w => add64_0 (y : Int) (c3 : Int) (by omega) (by omega) w))
      all_goals
        have hR := hR
        have hr2 : o3.length = ys.length := hR.2.1
        obtain ⟨hO, hd1⟩ := HN.out hR
        obtain ⟨d, ed⟩ : ∃ d, (y + c3) / 18446744073709551616 = d := ⟨_, rfl⟩
        obtain ⟨s, es⟩ : ∃ s, (y + c3) % 18446744073709551616 = s := ⟨_, rfl⟩
        rw [ed] at hd1 hO
        rw [es] at hO
        have ed' : ((y : Int) + (c3 : Int)) / 18446744073709551616 = (d : Int) := by omega
        have es' : ((y : Int) + (c3 : Int)) % 18446744073709551616 = (s : Int) := by omega
        rw [ed', es']
        have hset := hrow3.set (off + ys.length) s
        have hks := (hkw.drew.trans hk3).setCell (off + ys.length) (.int .u64 (s : Int))
        have HO : Hid _ := hO
        have w2 : IntKind.u64.wrap (1 - (d : Int)) = ((1 - d : Nat) : Int) := by rw [IntKind.wrap_u64]; omega
        clear hO hR ed es ed' es' g3 g4 ha0 hrow3 hk3 ck ckd
        go_wp2
        go_roundg (q - 1)
        case measure => rw [HG.out]; omega
        case rel => exact ⟨q - 1, 1 - d, o3 ++ [s], rfl, rfl, rfl, by omega, HO.out, hset.congr (fun j _ => by rw [← HeF.out]; exact laid_twice hr2 j), hks⟩
end Go.Proofs.YtnclddfljghebaaGreatDoor
