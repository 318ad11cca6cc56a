/- What the program's TwoProd answers of any two floats. -/
import Derived.Test.YtggdjbdamaeikaaGreatDoorZ15
import Derived.Test.YtggdjbdamaeikaaGreatDoorCp
namespace Go.Proofs.YtggdjbdamaeikaaGreatDoor
open Go.RowKit

/-- What a product loses, all NaN as one. -/
def tpO (a b : Nat) : Option Nat := (floatBits .mul .f64 a b).bind fun p => fuO a b (negW p) 0
theorem tp_told {a b r : Nat} (ha : a < 18446744073709551616) (hb : b < 18446744073709551616) (h : NR (floatBits .mul .f64 a b) r) : fuO a b (negW r) 0 = tpO a b := by
  unfold tpO
  cases hm : floatBits .mul .f64 a b with
  | some p =>
    rw [hm] at h
    have e : r = p := h.2
    rw [e]
    rfl
  | none =>
    have hf : (finB a && finB b) = false := by
      cases fa : finB a
      · rfl
      · cases fb : finB b
        · rfl
        · rw [(fbits_map a b).2.2.1, read_fin ha fa, read_fin hb fb] at hm
          cases hm
    unfold fuO fuI
    rw [hf, hm]
    rfl
set_option maxHeartbeats 1000000 in
theorem twoprod_any (a b : Nat) (ha : a < 18446744073709551616) (hb : b < 18446744073709551616) (w : World) (hT : TabW w) :
    Calls Tryz.prog 7 #[.float .f64 a, .float .f64 b] w fun e w' => ∃ s r, e = .returned (.tuple #[.float .f64 s, .float .f64 r]) ∧ NR (floatBits .mul .f64 a b) s ∧ NR (tpO a b) r ∧ Below w.heap.size w w' := by
  have f4 : FourOp .mul := Or.inr (Or.inr (Or.inl rfl))
  have h1 := run_op4 (P := Tryz.prog) (op := .mul) f4 22 a b w
  have hcv := conv64
  have hu := run_negf
  have hN := op_NR (op := .mul) f4 (a := a) (b := b) w
  have hB := opW_below .mul a b (Below.refl w.heap.size w)
  have cf := fun W h => rfused_any a b (negW (opR .mul a b w)) 0 ha hb (negW_lt hN.1) W h
  simp only [tp_told ha hb hN] at cf
  have hT2 := tabW_below hT hB
  clear f4 hT
  generalize opR .mul a b w = p at *
  generalize opW .mul a b w = w0 at *
  go_enter Tryz.func7, Tryz.ntmps7
  go_wp2_with (go_at_call 16; refine (cf _ hT2).mono ?_; rintro e w1 ⟨r, rfl, n1, b1⟩)
  exact bodyPost_ret (v := .tuple #[.float .f64 p, .float .f64 r]) (by simp [results, Tryz.results7, go_sem]) rfl ⟨_, _, rfl, hN, n1, hB.trans (b1.mono hB.size)⟩
end Go.Proofs.YtggdjbdamaeikaaGreatDoor
