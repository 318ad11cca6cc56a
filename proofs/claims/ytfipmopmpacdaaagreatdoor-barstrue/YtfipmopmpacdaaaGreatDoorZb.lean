/- What Shift answers. -/
import Derived.Test.YtfipmopmpacdaaaGreatDoorRows
import Derived.Test.YtfipmopmpacdaaaGreatDoorZa
import Derived.WalkKit
import Derived.WalkSpells
import Derived.WalkLawsBesides
import Derived.Deep.OwnRows
import Derived.Laws.MathBits
import Derived.Test.YtfipmopmpacdaaaGreatDoorK1
import Derived.Deep.LoopGhost
namespace Go.Proofs.YtfipmopmpacdaaaGreatDoor
open Go.RowKit
def LRow (w : World) (ao : Option Addr) (xs : List Nat) : Prop := xs.length = 0 ∨ ∃ b off, ao = some ⟨b, off, none⟩ ∧ ∀ j, j < xs.length → w.cell? ⟨b, off + j, none⟩ = some (.int .u64 (xs.getD j 0 : Nat))
theorem LRow.below {w w' : World} {ao : Option Addr} {xs : List Nat} (h : LRow w ao xs) (hb : Below w.heap.size w w') : LRow w' ao xs := by
 rcases h with h | ⟨b, off, rfl, hc⟩
 ·exact Or.inl h
 ·exact Or.inr ⟨b, off, rfl, fun j hj => by rw [hb.cell (World.block_lt_of_cell? w _ (hc j hj))]; exact hc j hj⟩
theorem LRow.alloc {w : World} {ao : Option Addr} {xs : List Nat} (h : LRow w ao xs) (o : Obj) : LRow (w.alloc o) ao xs := h.below ((Below.refl _ _).alloc (Nat.le_refl _) _)
theorem LRow.drew {w : World} {ao : Option Addr} {xs : List Nat} (h : LRow w ao xs) : LRow w.drew ao xs := h
theorem oldc {W w1 : World} (hb : Below W.heap.size W w1) : (∀ b o, b < W.heap.size → w1.cell? ⟨b, o, none⟩ = W.cell? ⟨b, o, none⟩) ∧ (∀ b o, b < W.heap.size → w1.frozen? ⟨b, o, none⟩ = W.frozen? ⟨b, o, none⟩) :=
 ⟨fun b o h => hb.cell (p := ⟨b, o, none⟩) h, fun b o h => hb.frozen (p := ⟨b, o, none⟩) h⟩
def Frs (B : Nat) (ao : Option Addr) : Prop := ∀ a, ao = some a → B ≤ a.block
theorem Frs.none (B : Nat) : Frs B none := fun _ h => by cases h
theorem Frs.mono {B C : Nat} {ao : Option Addr} (h : Frs B ao) (hc : C ≤ B) : Frs C ao := fun a e => Nat.le_trans hc (h a e)
theorem LRow.nil (w : World) (ao : Option Addr) : LRow w ao [] := Or.inl rfl
theorem i64_and63 (n : Int) : bits .and .i64 n 63 = n % 64 := by
 have h63 : (BitVec.ofInt 64 63).toNat = 2 ^ 6 - 1 := by decide
 have key : (BitVec.ofInt 64 n &&& BitVec.ofInt 64 63).toNat = (n % ((2 ^ 64 : Nat) : Int)).toNat % 2 ^ 6 := by
  rw [BitVec.toNat_and, BitVec.toNat_ofInt, h63, Nat.and_two_pow_sub_one_eq_mod]
 show IntKind.i64.wrap ((BitVec.ofInt 64 n &&& BitVec.ofInt 64 63).toNat : Nat) = n % 64
 rw [key, IntKind.wrap_i64]
 omega
set_option maxHeartbeats 400000 in
theorem limb_any (xs : List Nat) (ao : Option Addr) (cap : Nat) (i : Int) (w : World) (hr : LRow w ao xs) :
  Calls Tryz.prog 136 #[.slice ao xs.length cap, .int .i64 i] w fun e w' => e = .returned (.int .u64 (lmb xs i : Nat)) ∧ w' = w := by
 by_cases h0 : i < 0
 ·have HE : Hid (lmb xs i = 0) := (show lmb xs i = 0 by unfold lmb; rw [if_pos h0])
  go_enter Tryz.func136, Tryz.ntmps136
  go_wp2
  go_ret
  exact ⟨by rw [HE.out]; rfl, rfl⟩
 ·by_cases h1 : (xs.length : Int) ≤ i
  ·have HE : Hid (lmb xs i = 0) := (show lmb xs i = 0 by unfold lmb; rw [if_neg h0, List.getD_eq_getElem?_getD, List.getElem?_eq_none (by omega)]; rfl)
   go_enter Tryz.func136, Tryz.ntmps136
   go_wp2
   go_ret
   exact ⟨by rw [HE.out]; rfl, rfl⟩
  ·obtain ⟨n, rfl⟩ : ∃ n : Nat, i = n := ⟨i.toNat, by omega⟩
   rcases hr with h | ⟨b, off, rfl, hc⟩
   ·omega
   ·have g := hc n (by omega)
    have HE : Hid (lmb xs n = xs.getD n 0) := (show lmb xs n = xs.getD n 0 by unfold lmb; rw [if_neg (by omega), Int.toNat_natCast])
    clear hc
    go_enter Tryz.func136, Tryz.ntmps136
    go_wp2
    go_ret
    exact ⟨by rw [HE.out]; rfl, rfl⟩
theorem retI {k : IntKind} {a b : Int} (h : a = b) : Ending.returned (.int k a) = .returned (.int k b) := by rw [h]
theorem retB {a b : Bool} (h : a = b) : Ending.returned (.bool a) = .returned (.bool b) := by rw [h]
theorem win_go {xs : List Nat} (h : Lm xs) (low : Int) :
  bits .or .u64 ((lmb xs (low / 64) : Int) / 2 ^ (low % 64).toNat) (IntKind.u64.wrap ((lmb xs (low / 64 + 1) : Int) * 2 ^ (64 - low % 64).toNat)) = (win (vl xs) low : Nat) := by
 obtain ⟨o, ho⟩ : ∃ o : Nat, low % 64 = o := ⟨(low % 64).toNat, by omega⟩
 have ho64 : o < 64 := by omega
 obtain ⟨a1, a2, k, a3⟩ := win_two h (low / 64) o ho64
 have e0 : 64 * (low / 64) + o = low := by omega
 rw [e0] at a1
 rw [ho, Int.toNat_natCast, show (64 - (o : Int)).toNat = 64 - o by omega, IntKind.wrap_u64]
 have e1 : (lmb xs (low / 64) : Int) / 2 ^ o = ((lmb xs (low / 64) / 2 ^ o : Nat) : Int) := by rw [Int.natCast_ediv, Int.natCast_pow]; rfl
 have e2 : (lmb xs (low / 64 + 1) : Int) * 2 ^ (64 - o) % 18446744073709551616 = ((lmb xs (low / 64 + 1) * 2 ^ (64 - o) % 18446744073709551616 : Nat) : Int) := by rw [Int.natCast_emod, Int.natCast_mul, Int.natCast_pow]; rfl
 rw [e1, e2]
 have b1 : lmb xs (low / 64) / 2 ^ o < 18446744073709551616 := Nat.lt_of_le_of_lt (Nat.div_le_self _ _) (lmb_lt h _)
 have g := u64_or_nat _ _ b1 (Nat.mod_lt (lmb xs (low / 64 + 1) * 2 ^ (64 - o)) (show 0 < 18446744073709551616 by omega))
 rw [g, Nat.or_comm, a3, ← Nat.two_pow_add_eq_or_of_lt a2, ← a3, ← a1, Nat.add_comm]
set_option maxHeartbeats 400000 in
theorem window_any (xs : List Nat) (ao : Option Addr) (cap : Nat) (low : Int) (w : World) (hr : LRow w ao xs) (hL : Lm xs) (h1 : -1152921504606846976 ≤ low) (h2 : low ≤ 1152921504606846976) :
  Calls Tryz.prog 130 #[.slice ao xs.length cap, .int .i64 low] w fun e w' => e = .returned (.int .u64 (win (vl xs) low : Nat)) ∧ w' = w := by
 have h63 := i64_and63 low
 go_enter Tryz.func130, Tryz.ntmps130
 go_wp2_with (go_at_call 136; refine (limb_any _ _ _ _ _ (by assumption)).mono ?_; rintro e w' ⟨rfl, rfl⟩)
 go_ret
 exact ⟨retI (win_go hL low), rfl⟩
theorem len_end {t y : Nat} {x c : Int} (P : Nat) (hP : P = 2 ^ c.toNat) (ht : t = bitLen y) (hx : 0 ≤ x) (hc : 0 ≤ c) (hc2 : c ≤ 64) (hy0 : y ≠ 0) (hy : y = x.toNat / P) (h : x < 18446744073709551616) : wrap64 (c + wrap64 t) = (bl x.toNat : Int) := by
 have e : bitLen y = bl y := rfl
 have e1 : bl y = bl x.toNat - c.toNat := by rw [hy, hP]; exact bl_div
 have e2 := bl_pos hy0
 have e3 : bl x.toNat ≤ 64 := bl_le_iff.2 (by omega)
 rw [ht, e]
 unfold wrap64
 omega
theorem len_end0 {t y : Nat} {x : Int} (ht : t = bitLen y) (hx : 0 ≤ x) (hy : y = x.toNat) (h : x < 18446744073709551616) : wrap64 (wrap64 t) = (bl x.toNat : Int) := by
 have e : bitLen y = bl y := rfl
 have e3 : bl x.toNat ≤ 64 := bl_le_iff.2 (by omega)
 rw [ht, e, hy]
 unfold wrap64
 omega
set_option maxHeartbeats 1000000 in
set_option maxRecDepth 100000 in
theorem len64_int (x : Int) (h0 : 0 ≤ x) (h : x < 18446744073709551616) (w : World) :
  Calls Tryz.prog 131 #[.int .u64 x] w fun e w' => e = .returned (.int .i64 (bl x.toNat)) ∧ w' = w := by
 go_enter Tryz.func131, Tryz.ntmps131
 go_wp2
 all_goals go_ret
 ·exact ⟨retI (len_end 72057594037927936 rfl (len8tab_get _ _) h0 (by omega) (by omega) (by omega) (by omega) h), rfl⟩
 ·exact ⟨retI (len_end 281474976710656 rfl (len8tab_get _ _) h0 (by omega) (by omega) (by omega) (by omega) h), rfl⟩
 ·exact ⟨retI (len_end 1099511627776 rfl (len8tab_get _ _) h0 (by omega) (by omega) (by omega) (by omega) h), rfl⟩
 ·exact ⟨retI (len_end 4294967296 rfl (len8tab_get _ _) h0 (by omega) (by omega) (by omega) (by omega) h), rfl⟩
 ·exact ⟨retI (len_end 16777216 rfl (len8tab_get _ _) h0 (by omega) (by omega) (by omega) (by omega) h), rfl⟩
 ·exact ⟨retI (len_end 65536 rfl (len8tab_get _ _) h0 (by omega) (by omega) (by omega) (by omega) h), rfl⟩
 ·exact ⟨retI (len_end 256 rfl (len8tab_get _ _) h0 (by omega) (by omega) (by omega) (by omega) h), rfl⟩
 ·exact ⟨retI (len_end0 (len8tab_get _ _) h0 (by omega) h), rfl⟩
theorem len64_any (x : Nat) (h : x < 18446744073709551616) (w : World) :
  Calls Tryz.prog 131 #[.int .u64 x] w fun e w' => e = .returned (.int .i64 (bl x)) ∧ w' = w := len64_int x (by omega) (by omega) w
theorem bl_top {xs : List Nat} (hL : Lm xs) {m : Nat} (hm : m < xs.length) (hz : ∀ j, m < j → j < xs.length → xs.getD j 0 = 0) (hx : xs.getD m 0 ≠ 0) : bl (vl xs) = 64 * m + bl (xs.getD m 0) := by
 have e := vl_split xs (m + 1) (by omega)
 have z : vl (xs.drop (m + 1)) = 0 := vl_zero fun i hi => by
  rw [List.length_drop] at hi
  have := hz (m + 1 + i) (by omega) (by omega)
  rw [List.getD_eq_getElem?_getD] at this ⊢
  rw [List.getElem?_drop]; exact this
 rw [z, Nat.mul_zero, Nat.add_zero, vl_take_succ hm] at e
 rw [e, bl_join (vl_take_lt hL m) hx]
theorem tz_low {xs : List Nat} (hL : Lm xs) {m : Nat} (hm : m < xs.length) (hz : ∀ j, j < m → xs.getD j 0 = 0) (hx : xs.getD m 0 ≠ 0) : tz (vl xs) = 64 * m + tz (xs.getD m 0) := by
 have e := vl_split xs m (by omega)
 have z : vl (xs.take m) = 0 := vl_zero fun i hi => by
  rw [List.length_take] at hi
  have := hz i (by omega)
  rw [List.getD_eq_getElem?_getD] at this ⊢
  rw [List.getElem?_take_of_lt (by omega)]; exact this
 have e2 : xs.drop m = xs.getD m 0 :: xs.drop (m + 1) := by
  rw [List.drop_eq_getElem_cons hm, List.getD_eq_getElem?_getD, List.getElem?_eq_getElem hm]; rfl
 rw [z, Nat.zero_add, e2, vl] at e
 have hb := hL.getD m
 have j := tz_join (a := xs.getD m 0) (b := vl (xs.drop (m + 1))) (n := 64) (by rw [p64]; exact hb) hx
 rw [p64] at j
 rw [e, Nat.mul_comm, tz_mul_pow (by omega), j, Nat.add_comm]
set_option maxHeartbeats 400000 in
theorem bitLen_any (xs : List Nat) (ao : Option Addr) (cap : Nat) (w : World) (hr : LRow w ao xs) (hL : Lm xs) (hn : xs.length ≤ 1125899906842624) :
  Calls Tryz.prog 121 #[.slice ao xs.length cap] w fun e w' => e = .returned (.int .i64 (bl (vl xs))) ∧ w' = w := by
 go_enter Tryz.func121, Tryz.ntmps121
 go_wp2
 go_loop [7] (fun i => ∃ k : Nat, k ≤ xs.length ∧ i = .int .i64 k ∧ Hid (∀ j, xs.length - k ≤ j → j < xs.length → xs.getD j 0 = 0)) (fun i => xs.length - (intOf i).toNat)
 case atStart => exact ⟨0, Nat.zero_le _, rfl, fun j h1 h2 => by omega⟩
 case round =>
  obtain ⟨k, hk, rfl, hz⟩ := hrel
  by_cases hlt : k < xs.length
  ·rcases hr with h | ⟨b, off, rfl, hc⟩
   ·omega
   ·have g := hc (xs.length - 1 - k) (by omega)
    have hb := hL.getD (xs.length - 1 - k)
    obtain ⟨x, hx⟩ : ∃ x, xs.getD (xs.length - 1 - k) 0 = x := ⟨_, rfl⟩
    rw [hx] at g hb
    have HX : Hid (xs.getD (xs.length - 1 - k) 0 = x) := hx
    clear hc hx
    by_cases h0 : x = 0
    ·subst h0
     go_wp2
     go_round
     case rel => exact ⟨k + 1, by omega, by go_num, fun j h1 h2 => by
      by_cases e : j = xs.length - 1 - k
      ·rw [e]; exact HX.out
      ·exact hz.out j (by omega) h2⟩
     case measure => simp [intOf]; omega
    ·have hb0 : ((x : Int) != 0) = true := by simp; omega
     have HB : Hid (bl (vl xs) = 64 * (xs.length - 1 - k) + bl x) := by
      have := bl_top hL (m := xs.length - 1 - k) (by omega) (fun j h1 h2 => hz.out j (by omega) h2) (by rw [HX.out]; exact h0)
      rw [HX.out] at this
      exact this
     have hbl : bl x ≤ 64 := bl_le_iff.2 (by omega)
     clear hL
     go_wp2_with (go_at_call 131; refine (len64_any _ (by assumption) _).mono ?_; rintro e w' ⟨rfl, rfl⟩)
     go_ret
     exact ⟨retI (by rw [HB.out]; omega), rfl⟩
  ·have HV : Hid (vl xs = 0) := (show vl xs = 0 from vl_zero fun j hj => hz.out j (by omega) hj)
   go_wp2
   go_ret
   exact ⟨retI (by rw [HV.out]; rfl), rfl⟩
set_option maxHeartbeats 400000 in
theorem trailing_any (xs : List Nat) (ao : Option Addr) (cap : Nat) (w : World) (hr : LRow w ao xs) (hL : Lm xs) (hT : TabW w) (hn : xs.length ≤ 1125899906842624) :
  Calls Tryz.prog 120 #[.slice ao xs.length cap] w fun e w' => e = .returned (.int .i64 (tz (vl xs))) ∧ w' = w := by
 go_enter Tryz.func120, Tryz.ntmps120
 go_wp2
 go_loop [6] (fun i => ∃ k : Nat, k ≤ xs.length ∧ i = .int .i64 k ∧ Hid (∀ j, j < k → xs.getD j 0 = 0)) (fun i => xs.length - (intOf i).toNat)
 case atStart => exact ⟨0, Nat.zero_le _, rfl, fun j h1 => by omega⟩
 case round =>
  obtain ⟨k, hk, rfl, hz⟩ := hrel
  by_cases hlt : k < xs.length
  ·rcases hr with h | ⟨b, off, rfl, hc⟩
   ·omega
   ·have g := hc k (by omega)
    have hb := hL.getD k
    obtain ⟨x, hx⟩ : ∃ x, xs.getD k 0 = x := ⟨_, rfl⟩
    rw [hx] at g hb
    have HX : Hid (xs.getD k 0 = x) := hx
    clear hc hx
    by_cases h0 : x = 0
    ·subst h0
     clear hT
     go_wp2
     go_round
     case rel => exact ⟨k + 1, by omega, by go_num, fun j h1 => by
      by_cases e : j = k
      ·rw [e]; exact HX.out
      ·exact hz.out j (by omega)⟩
     case measure => simp [intOf]; omega
    ·have hb0 : ((x : Int) != 0) = true := by simp; omega
     have HB : Hid (tz (vl xs) = 64 * k + tz x) := by
      have := tz_low hL (m := k) (by omega) (fun j h1 => hz.out j h1) (by rw [HX.out]; exact h0)
      rw [HX.out] at this
      exact this
     have hzz := zeros_any x hb h0 w hT
     rw [ctz_tz hb h0] at hzz
     have htz : tz x < 64 := Nat.lt_of_lt_of_le (tz_lt_bl h0) (bl_le_iff.2 (by omega))
     clear hL hT
     go_wp2_with (go_at_call 119; refine hzz.mono ?_; rintro e w' ⟨rfl, rfl⟩)
     go_ret
     exact ⟨retI (by rw [HB.out]; omega), rfl⟩
  ·have HV : Hid (vl xs = 0) := (show vl xs = 0 from vl_zero fun j hj => hz.out j (by omega))
   clear hT
   go_wp2
   go_ret
   exact ⟨retI (by rw [HV.out]; rfl), rfl⟩
theorem Tryz.infoU : (Tryz.prog.info? 92).map (fun i => (i.zero, i.size, i.bytes)) = some (some (.int .u64 0), 1, 8) := by kernel_rfl
def FRow (w : World) (b n : Nat) (f : Nat → Nat) : Prop := w.rowIs b 92 n (fun j => .int .u64 (f j : Nat))
theorem FRow.lrow {w : World} {b n : Nat} {f : Nat → Nat} {xs : List Nat} (h : FRow w b n f) (hn : xs.length = n) (hx : ∀ j, j < n → xs.getD j 0 = f j) : LRow w (some ⟨b, 0, none⟩) xs := by
 right
 refine ⟨b, 0, rfl, fun j hj => ?_⟩
 have := h.cell (i := j) (by omega)
 rw [Nat.zero_add, this, hx j (by omega)]
theorem FRow.set {w : World} {b n : Nat} {f : Nat → Nat} (h : FRow w b n f) (i v : Nat) : FRow (w.setCell ⟨b, i, none⟩ (.int .u64 (v : Nat))) b n (fun j => if j = i then v else f j) := by
 have := World.rowIs.set h i (.int .u64 (v : Nat))
 refine World.rowIs.congr this fun j _ => ?_
 by_cases hj : j = i <;> simp [hj]
theorem FRow.congr {w : World} {b n : Nat} {f g : Nat → Nat} (h : FRow w b n f) (e : ∀ j, j < n → f j = g j) : FRow w b n g := World.rowIs.congr h fun j hj => by rw [e j hj]
theorem FRow.made (w : World) (n : Nat) : FRow (w.alloc (.cells (madeCells #[.int .u64 0] n) 92)) w.heap.size n (fun _ => 0) := World.rowIs_made w (.int .u64 0) n 92
theorem FRow.below {w w' : World} {b n B : Nat} {f : Nat → Nat} (h : FRow w b n f) (hb : Below B w w') (hB : b < B) : FRow w' b n f := World.rowIs.of_block h (hb.block b hB)
set_option maxHeartbeats 1000000 in
theorem shift_any (xs : List Nat) (ao : Option Addr) (cap : Nat) (s : Int) (b n : Nat) (hbl : bl (vl xs) = b) (hn : (n : Int) = ((b : Int) + s + 64 - 1) / 64) (w : World) (hr : LRow w ao xs) (hL : Lm xs) (hl : xs.length ≤ 1125899906842624) (hb0 : b ≠ 0) (hbs : 0 < (b : Int) + s) (hb2 : b ≤ 144115188075855872) (hs1 : -144115188075855872 ≤ s) (hs2 : s ≤ 144115188075855872) (hn2 : n ≤ 35184372088832) :
  Calls Tryz.prog 122 #[.slice ao xs.length cap, .int .i64 s] w fun e w' => e = .returned (.slice (some ⟨w.heap.size, 0, none⟩) n n) ∧ FRow w' w.heap.size n (fun j => win (vl xs) ((j : Int) * 64 - s)) ∧ Below w.heap.size w w' := by
 have hmk := run_make_row' (P := Tryz.prog) 47 92 (.int .u64 0) 8 Tryz.underlying47 Tryz.infoU rfl .i64 .i64 n (by omega) (by omega)
 rw [hn] at hmk
 have hmade := FRow.made w n
 have hbm : Below w.heap.size w (w.alloc (.cells (madeCells #[.int .u64 0] n) 92)) := (Below.refl _ _).alloc (Nat.le_refl _) _
 have t1 : ((b : Int) == 0) = false := by simp; omega
 have t2 : ¬ (b : Int) ≤ -s := by omega
 have HN : Hid ((n : Int) = ((b : Int) + s + 64 - 1) / 64) := hn
 have hcl := bitLen_any xs ao cap w hr hL hl
 rw [hbl] at hcl
 clear hbl hn
 go_enter Tryz.func122, Tryz.ntmps122
 go_wp2_with (go_at_call 121; refine hcl.mono ?_; rintro e w1 ⟨rfl, h1⟩; subst w1)
 clear hmk hcl
 go_loopg [27] n (fun g i wr => ∃ k : Nat, k ≤ n ∧ g = n - k ∧ i = .int .i64 k ∧ FRow wr w.heap.size n (fun j => if j < k then win (vl xs) ((j : Int) * 64 - s) else 0) ∧ Below w.heap.size w wr)
 case atStart => exact ⟨0, Nat.zero_le _, rfl, rfl, hmade.congr (fun j _ => by simp), hbm⟩
 case round =>
  obtain ⟨k, hk, hg, rfl, hrow, hb⟩ := hrel
  clear hmade hbm
  by_cases hlt : k < n
  ·have hrr := hr.below hb
   have hcell : wr.cell? ⟨w.heap.size, k, none⟩ = some (.int .u64 ((if k < k then win (vl xs) ((k : Int) * 64 - s) else 0 : Nat) : Int)) := World.rowIs.cell hrow hlt
   have hfro := World.rowIs.frozen hrow k
   rw [if_neg (by omega)] at hcell
   have hset := hrow.set k (win (vl xs) ((k : Int) * 64 - s))
   have hbs := hb.setCell (p := ⟨w.heap.size, k, none⟩) (Nat.le_refl _) (.int .u64 ((win (vl xs) ((k : Int) * 64 - s) : Nat) : Int))
   clear hrow hr hb
   go_wp2_with (go_at_call 130; refine (window_any _ _ _ _ _ (by assumption) (by assumption) (by omega) (by omega)).mono ?_; rintro e w' ⟨rfl, rfl⟩)
   go_roundg (n - (k + 1))
   case measure => omega
   case rel =>
    refine ⟨k + 1, by omega, rfl, by go_num, hset.congr (fun j hj => ?_), hbs⟩
    by_cases hjk : j = k
    ·subst hjk; rw [if_pos rfl, if_pos (by omega)]
    ·rw [if_neg hjk]
     by_cases h : j < k
     ·rw [if_pos h, if_pos (by omega)]
     ·rw [if_neg h, if_neg (by omega)]
  ·go_wp2
   go_ret
   exact ⟨rfl, hrow.congr (fun j hj => by rw [if_pos (by omega)]), hb⟩
set_option maxHeartbeats 400000 in
theorem cut_any (xs : List Nat) (ao : Option Addr) (cap : Nat) (low wd n : Nat) (hbl : (bl (vl xs) : Int) - (low : Int) = (wd : Int)) (hn : n = (wd + 63) / 64) (w : World) (hr : LRow w ao xs) (hL : Lm xs) (hl : xs.length ≤ 1125899906842624) (h1 : low ≤ 144115188075855872) (h0 : wd ≠ 0) (h2 : wd ≤ 16384) :
  Calls Tryz.prog 122 #[.slice ao xs.length cap, .int .i64 (-(low : Int))] w fun e w' => e = .returned (.slice (some ⟨w.heap.size, 0, none⟩) n n) ∧ FRow w' w.heap.size n (fun j => vl xs / 2 ^ low / 2 ^ (64 * j) % 18446744073709551616) ∧ Below w.heap.size w w' := by
 have hb : bl (vl xs) ≤ 64 * 1125899906842624 := bl_limbs hL hl
 refine (shift_any xs ao cap (-(low : Int)) (bl (vl xs)) n rfl (by omega) w hr hL hl (by omega) (by omega) (by omega) (by omega) (by omega) (by omega)).mono ?_
 rintro e w' ⟨rfl, hf, hb'⟩
 refine ⟨rfl, hf.congr fun j _ => ?_, hb'⟩
 have := win_down (vl xs) low j
 rw [show (j : Int) * 64 - -(low : Int) = (low : Int) + j * 64 by omega]
 exact this
end Go.Proofs.YtfipmopmpacdaaaGreatDoor
