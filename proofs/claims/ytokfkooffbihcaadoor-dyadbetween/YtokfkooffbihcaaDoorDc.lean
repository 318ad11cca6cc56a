/- What limb and window answer; limbs as they lie in memory. -/
import Derived.Test.YtokfkooffbihcaaDoorRows
import Derived.Test.YtokfkooffbihcaaDoorDk
import Derived.WalkKit
import Derived.WalkSpells
import Derived.WalkLawsBesides
import Derived.Deep.OwnRows
namespace Go.Proofs.YtokfkooffbihcaaDoor
open Go.RowKit

/-- Limbs at an address. -/
def LRow (w : World) (ao : Option Addr) (xs : List Nat) : Prop := xs.length = 0 ∨ ∃ b off, ao = some ⟨b, off, none⟩ ∧ ∀ j, j < xs.length → w.cell? ⟨b, off + j, none⟩ = some (.int .u64 (xs.getD j 0 : Nat))
theorem LRow.below {w w' : World} {ao : Option Addr} {xs : List Nat} (h : LRow w ao xs) (hb : Below w.heap.size w w') : LRow w' ao xs := by
  rcases h with h | ⟨b, off, rfl, hc⟩
  · exact Or.inl h
  · exact Or.inr ⟨b, off, rfl, fun j hj => by rw [hb.cell (World.block_lt_of_cell? w _ (hc j hj))]; exact hc j hj⟩
theorem LRow.alloc {w : World} {ao : Option Addr} {xs : List Nat} (h : LRow w ao xs) (o : Obj) : LRow (w.alloc o) ao xs := h.below ((Below.refl _ _).alloc (Nat.le_refl _) _)
theorem LRow.drew {w : World} {ao : Option Addr} {xs : List Nat} (h : LRow w ao xs) : LRow w.drew ao xs := h
/-- What old cells and marks read as behind a call that turned nothing old. -/
theorem oldc {W w1 : World} (hb : Below W.heap.size W w1) : (∀ b o, b < W.heap.size → w1.cell? ⟨b, o, none⟩ = W.cell? ⟨b, o, none⟩) ∧ (∀ b o, b < W.heap.size → w1.frozen? ⟨b, o, none⟩ = W.frozen? ⟨b, o, none⟩) :=
  ⟨fun b o h => hb.cell (p := ⟨b, o, none⟩) h, fun b o h => hb.frozen (p := ⟨b, o, none⟩) h⟩
/-- An address not older than B. -/
def Frs (B : Nat) (ao : Option Addr) : Prop := ∀ a, ao = some a → B ≤ a.block
theorem Frs.none (B : Nat) : Frs B none := fun _ h => by cases h
theorem Frs.mono {B C : Nat} {ao : Option Addr} (h : Frs B ao) (hc : C ≤ B) : Frs C ao := fun a e => Nat.le_trans hc (h a e)
theorem LRow.nil (w : World) (ao : Option Addr) : LRow w ao [] := Or.inl rfl

theorem i64_and63 (n : Int) : bits .and .i64 n 63 = n % 64 := by
  have h63 : (BitVec.ofInt 64 63).toNat = 2 ^ 6 - 1 := by decide
  have key : (BitVec.ofInt 64 n &&& BitVec.ofInt 64 63).toNat = (n % ((2 ^ 64 : Nat) : Int)).toNat % 2 ^ 6 := by
    rw [BitVec.toNat_and, BitVec.toNat_ofInt, h63, Nat.and_two_pow_sub_one_eq_mod]
  show IntKind.i64.wrap ((BitVec.ofInt 64 n &&& BitVec.ofInt 64 63).toNat : Nat) = n % 64
  rw [key, IntKind.wrap_i64]
  omega

set_option maxHeartbeats 400000 in
theorem limb_any (xs : List Nat) (ao : Option Addr) (cap : Nat) (i : Int) (w : World) (hr : LRow w ao xs) :
    Calls Tryd.prog 37 #[.slice ao xs.length cap, .int .i64 i] w fun e w' => e = .returned (.int .u64 (lmb xs i : Nat)) ∧ w' = w := by
  by_cases h0 : i < 0
  · have HE : Hid (lmb xs i = 0) := (show lmb xs i = 0 by unfold lmb; rw [if_pos h0])
    go_enter Tryd.func37, Tryd.ntmps37
    go_wp2
    go_ret
    exact ⟨by rw [HE.out]; rfl, rfl⟩
  · by_cases h1 : (xs.length : Int) ≤ i
    · have HE : Hid (lmb xs i = 0) := (show lmb xs i = 0 by unfold lmb; rw [if_neg h0, List.getD_eq_getElem?_getD, List.getElem?_eq_none (by omega)]; rfl)
      go_enter Tryd.func37, Tryd.ntmps37
      go_wp2
      go_ret
      exact ⟨by rw [HE.out]; rfl, rfl⟩
    · obtain ⟨n, rfl⟩ : ∃ n : Nat, i = n := ⟨i.toNat, by omega⟩
      rcases hr with h | ⟨b, off, rfl, hc⟩
      · omega
      · have g := hc n (by omega)
        have HE : Hid (lmb xs n = xs.getD n 0) := (show lmb xs n = xs.getD n 0 by unfold lmb; rw [if_neg (by omega), Int.toNat_natCast])
        clear hc
        go_enter Tryd.func37, Tryd.ntmps37
        go_wp2
        go_ret
        exact ⟨by rw [HE.out]; rfl, rfl⟩
end Go.Proofs.YtokfkooffbihcaaDoor
