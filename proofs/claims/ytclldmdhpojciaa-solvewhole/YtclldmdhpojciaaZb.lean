/- What Shift answers. -/
import Derived.Test.YtclldmdhpojciaaRows
import Derived.Test.YtclldmdhpojciaaZa
import Derived.WalkKit
import Derived.WalkSpells
import Derived.WalkLawsBesides
import Derived.Deep.OwnRows
import Derived.Laws.MathBits
import Derived.Test.YtclldmdhpojciaaWc
import Derived.Deep.LoopGhost
namespace Go.Proofs.Ytclldmdhpojciaa
open Go.RowKit

/-- Limbs at an address. -/
def LRow (w : World) (ao : Option Addr) (xs : List Nat) : Prop := xs.length = 0 ∨ ∃ b off, ao = some ⟨b, off, none⟩ ∧ ∀ j, j < xs.length → w.cell? ⟨b, off + j, none⟩ = some (.int .u64 (xs.getD j 0 : Nat))
theorem LRow.below {w w' : World} {ao : Option Addr} {xs : List Nat} (h : LRow w ao xs) (hb : Below w.heap.size w w') : LRow w' ao xs := by
  rcases h with h | ⟨b, off, rfl, hc⟩
  · exact Or.inl h
  · exact Or.inr ⟨b, off, rfl, fun j hj => by rw [hb.cell (World.block_lt_of_cell? w _ (hc j hj))]; exact hc j hj⟩
theorem LRow.alloc {w : World} {ao : Option Addr} {xs : List Nat} (h : LRow w ao xs) (o : Obj) : LRow (w.alloc o) ao xs := h.below ((Below.refl _ _).alloc (Nat.le_refl _) _)
theorem LRow.drew {w : World} {ao : Option Addr} {xs : List Nat} (h : LRow w ao xs) : LRow w.drew ao xs := h
/-- What old cells and marks read as behind a call that turned nothing old. -/
theorem oldc {W w1 : World} (hb : Below W.heap.size W w1) : (∀ b o, b < W.heap.size → w1.cell? ⟨b, o, none⟩ = W.cell? ⟨b, o, none⟩) ∧ (∀ b o, b < W.heap.size → w1.frozen? ⟨b, o, none⟩ = W.frozen? ⟨b, o, none⟩) :=
  ⟨fun b o h => hb.cell (p := ⟨b, o, none⟩) h, fun b o h => hb.frozen (p := ⟨b, o, none⟩) h⟩
/-- An address not older than B. -/
def Frs (B : Nat) (ao : Option Addr) : Prop := ∀ a, ao = some a → B ≤ a.block
theorem Frs.none (B : Nat) : Frs B none := fun _ h => by cases h
theorem Frs.mono {B C : Nat} {ao : Option Addr} (h : Frs B ao) (hc : C ≤ B) : Frs C ao := fun a e => Nat.le_trans hc (h a e)
theorem LRow.nil (w : World) (ao : Option Addr) : LRow w ao [] := Or.inl rfl

theorem i64_and63 (n : Int) : bits .and .i64 n 63 = n % 64 := by
  have h63 : (BitVec.ofInt 64 63).toNat = 2 ^ 6 - 1 := by decide
  have key : (BitVec.ofInt 64 n &&& BitVec.ofInt 64 63).toNat = (n % ((2 ^ 64 : Nat) : Int)).toNat % 2 ^ 6 := by
    rw [BitVec.toNat_and, BitVec.toNat_ofInt, h63, Nat.and_two_pow_sub_one_eq_mod]
  show IntKind.i64.wrap ((BitVec.ofInt 64 n &&& BitVec.ofInt 64 63).toNat : Nat) = n % 64
  rw [key, IntKind.wrap_i64]
  omega

end Go.Proofs.Ytclldmdhpojciaa

namespace Go.Proofs.Ytclldmdhpojciaa
open Go.RowKit

theorem retI {k : IntKind} {a b : Int} (h : a = b) : Ending.returned (.int k a) = .returned (.int k b) := by rw [h]
theorem retB {a b : Bool} (h : a = b) : Ending.returned (.bool a) = .returned (.bool b) := by rw [h]

theorem win_go {xs : List Nat} (h : Lm xs) (low : Int) :
    bits .or .u64 ((lmb xs (low / 64) : Int) / 2 ^ (low % 64).toNat) (IntKind.u64.wrap ((lmb xs (low / 64 + 1) : Int) * 2 ^ (64 - low % 64).toNat)) = (win (vl xs) low : Nat) := by
  obtain ⟨o, ho⟩ : ∃ o : Nat, low % 64 = o := ⟨(low % 64).toNat, by omega⟩
  have ho64 : o < 64 := by omega
  obtain ⟨a1, a2, k, a3⟩ := win_two h (low / 64) o ho64
  have e0 : 64 * (low / 64) + o = low := by omega
  rw [e0] at a1
  rw [ho, Int.toNat_natCast, show (64 - (o : Int)).toNat = 64 - o by omega, IntKind.wrap_u64]
  have e1 : (lmb xs (low / 64) : Int) / 2 ^ o = ((lmb xs (low / 64) / 2 ^ o : Nat) : Int) := by rw [Int.natCast_ediv, Int.natCast_pow]; rfl
  have e2 : (lmb xs (low / 64 + 1) : Int) * 2 ^ (64 - o) % 18446744073709551616 = ((lmb xs (low / 64 + 1) * 2 ^ (64 - o) % 18446744073709551616 : Nat) : Int) := by rw [Int.natCast_emod, Int.natCast_mul, Int.natCast_pow]; rfl
  rw [e1, e2]
  have b1 : lmb xs (low / 64) / 2 ^ o < 18446744073709551616 := Nat.lt_of_le_of_lt (Nat.div_le_self _ _) (lmb_lt h _)
  have g := u64_or_nat _ _ b1 (Nat.mod_lt (lmb xs (low / 64 + 1) * 2 ^ (64 - o)) (show 0 < 18446744073709551616 by omega))
  rw [g, Nat.or_comm, a3, ← Nat.two_pow_add_eq_or_of_lt a2, ← a3, ← a1, Nat.add_comm]

theorem len_end {t y : Nat} {x c : Int} (P : Nat) (hP : P = 2 ^ c.toNat) (ht : t = bitLen y) (hx : 0 ≤ x) (hc : 0 ≤ c) (hc2 : c ≤ 64) (hy0 : y ≠ 0) (hy : y = x.toNat / P) (h : x < 18446744073709551616) : wrap64 (c + wrap64 t) = (bl x.toNat : Int) := by
  have e : bitLen y = bl y := rfl
  have e1 : bl y = bl x.toNat - c.toNat := by rw [hy, hP]; exact bl_div
  have e2 := bl_pos hy0
  have e3 : bl x.toNat ≤ 64 := bl_le_iff.2 (by omega)
  rw [ht, e]
  unfold wrap64
  omega
theorem len_end0 {t y : Nat} {x : Int} (ht : t = bitLen y) (hx : 0 ≤ x) (hy : y = x.toNat) (h : x < 18446744073709551616) : wrap64 (wrap64 t) = (bl x.toNat : Int) := by
  have e : bitLen y = bl y := rfl
  have e3 : bl x.toNat ≤ 64 := bl_le_iff.2 (by omega)
  rw [ht, e, hy]
  unfold wrap64
  omega

end Go.Proofs.Ytclldmdhpojciaa

namespace Go.Proofs.Ytclldmdhpojciaa
open Go.RowKit

theorem bl_top {xs : List Nat} (hL : Lm xs) {m : Nat} (hm : m < xs.length) (hz : ∀ j, m < j → j < xs.length → xs.getD j 0 = 0) (hx : xs.getD m 0 ≠ 0) : bl (vl xs) = 64 * m + bl (xs.getD m 0) := by
  have e := vl_split xs (m + 1) (by omega)
  have z : vl (xs.drop (m + 1)) = 0 := vl_zero fun i hi => by
    rw [List.length_drop] at hi
    have := hz (m + 1 + i) (by omega) (by omega)
    rw [List.getD_eq_getElem?_getD] at this ⊢
    rw [List.getElem?_drop]; exact this
  rw [z, Nat.mul_zero, Nat.add_zero, vl_take_succ hm] at e
  rw [e, bl_join (vl_take_lt hL m) hx]
theorem vl_all_zero {xs : List Nat} (hz : ∀ j, j < xs.length → xs.getD j 0 = 0) : vl xs = 0 := vl_zero hz
theorem tz_low {xs : List Nat} (hL : Lm xs) {m : Nat} (hm : m < xs.length) (hz : ∀ j, j < m → xs.getD j 0 = 0) (hx : xs.getD m 0 ≠ 0) : tz (vl xs) = 64 * m + tz (xs.getD m 0) := by
  have e := vl_split xs m (by omega)
  have z : vl (xs.take m) = 0 := vl_zero fun i hi => by
    rw [List.length_take] at hi
    have := hz i (by omega)
    rw [List.getD_eq_getElem?_getD] at this ⊢
    rw [List.getElem?_take_of_lt (by omega)]; exact this
  have e2 : xs.drop m = xs.getD m 0 :: xs.drop (m + 1) := by
    rw [List.drop_eq_getElem_cons hm, List.getD_eq_getElem?_getD, List.getElem?_eq_getElem hm]; rfl
  rw [z, Nat.zero_add, e2, vl] at e
  have hb := hL.getD m
  have j := tz_join (a := xs.getD m 0) (b := vl (xs.drop (m + 1))) (n := 64) (by rw [p64]; exact hb) hx
  rw [p64] at j
  rw [e, Nat.mul_comm, tz_mul_pow (by omega), j, Nat.add_comm]

end Go.Proofs.Ytclldmdhpojciaa

namespace Go.Proofs.Ytclldmdhpojciaa
open Go.RowKit

theorem Try.infoU : (Try.prog.info? 58).map (fun i => (i.zero, i.size, i.bytes)) = some (some (.int .u64 0), 1, 8) := by kernel_rfl

/-- A new row of limbs, filled as far as k. -/
def FRow (w : World) (b n : Nat) (f : Nat → Nat) : Prop := w.rowIs b 58 n (fun j => .int .u64 (f j : Nat))
theorem FRow.lrow {w : World} {b n : Nat} {f : Nat → Nat} {xs : List Nat} (h : FRow w b n f) (hn : xs.length = n) (hx : ∀ j, j < n → xs.getD j 0 = f j) : LRow w (some ⟨b, 0, none⟩) xs := by
  right
  refine ⟨b, 0, rfl, fun j hj => ?_⟩
  have := h.cell (i := j) (by omega)
  rw [Nat.zero_add, this, hx j (by omega)]
theorem FRow.set {w : World} {b n : Nat} {f : Nat → Nat} (h : FRow w b n f) (i v : Nat) : FRow (w.setCell ⟨b, i, none⟩ (.int .u64 (v : Nat))) b n (fun j => if j = i then v else f j) := by
  have := World.rowIs.set h i (.int .u64 (v : Nat))
  refine World.rowIs.congr this fun j _ => ?_
  by_cases hj : j = i <;> simp [hj]
theorem FRow.congr {w : World} {b n : Nat} {f g : Nat → Nat} (h : FRow w b n f) (e : ∀ j, j < n → f j = g j) : FRow w b n g := World.rowIs.congr h fun j hj => by rw [e j hj]
theorem FRow.made (w : World) (n : Nat) : FRow (w.alloc (.cells (madeCells #[.int .u64 0] n) 58)) w.heap.size n (fun _ => 0) := World.rowIs_made w (.int .u64 0) n 58
theorem FRow.below {w w' : World} {b n B : Nat} {f : Nat → Nat} (h : FRow w b n f) (hb : Below B w w') (hB : b < B) : FRow w' b n f := World.rowIs.of_block h (hb.block b hB)

end Go.Proofs.Ytclldmdhpojciaa
