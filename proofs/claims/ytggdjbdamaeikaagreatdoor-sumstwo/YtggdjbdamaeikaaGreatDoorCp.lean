/- What TwoSum answers, on both sides, of any two floats. -/
import Derived.Test.YtggdjbdamaeikaaGreatDoorZ8
namespace Go.Proofs.YtggdjbdamaeikaaGreatDoor
open Go.RowKit

def tsS (a b : Nat) : Option Nat := opO .add (toO a) (toO b)
def tsP (a b : Nat) : Option Nat := opO .sub (tsS a b) (toO a)
def tsR (a b : Nat) : Option Nat := opO .add (opO .sub (toO a) (opO .sub (tsS a b) (tsP a b))) (opO .sub (toO b) (tsP a b))
def vS (a b : Nat) (w : World) : Nat := opR .add a b w
def uS (a b : Nat) (w : World) : World := opW .add a b w
def vP (a b : Nat) (w : World) : Nat := opR .sub (vS a b w) a (uS a b w)
def uP (a b : Nat) (w : World) : World := opW .sub (vS a b w) a (uS a b w)
def vQ (a b : Nat) (w : World) : Nat := opR .sub (vS a b w) (vP a b w) (uP a b w)
def uQ (a b : Nat) (w : World) : World := opW .sub (vS a b w) (vP a b w) (uP a b w)
def vX (a b : Nat) (w : World) : Nat := opR .sub a (vQ a b w) (uQ a b w)
def uX (a b : Nat) (w : World) : World := opW .sub a (vQ a b w) (uQ a b w)
def vY (a b : Nat) (w : World) : Nat := opR .sub b (vP a b w) (uX a b w)
def uY (a b : Nat) (w : World) : World := opW .sub b (vP a b w) (uX a b w)
def vE (a b : Nat) (w : World) : Nat := opR .add (vX a b w) (vY a b w) (uY a b w)
theorem two_facts (a b : Nat) (ha : a < 18446744073709551616) (hb : b < 18446744073709551616) (w : World) : Hid (NR (tsS a b) (vS a b w) ∧ NR (tsR a b) (vE a b w) ∧ Below w.heap.size w (opW .add (vX a b w) (vY a b w) (uY a b w))) := by
  show _ ∧ _
  have fa : FourOp .add := Or.inl rfl
  have fs : FourOp .sub := Or.inr (Or.inl rfl)
  have na := toO_NR ha
  have nb := toO_NR hb
  have n1 : NR (tsS a b) (vS a b w) := opO_NR fa na nb w
  have n2 : NR (tsP a b) (vP a b w) := opO_NR fs n1 na _
  have n3 : NR (opO .sub (tsS a b) (tsP a b)) (vQ a b w) := opO_NR fs n1 n2 _
  have n4 : NR (opO .sub (toO a) (opO .sub (tsS a b) (tsP a b))) (vX a b w) := opO_NR fs na n3 _
  have n5 : NR (opO .sub (toO b) (tsP a b)) (vY a b w) := opO_NR fs nb n2 _
  exact ⟨n1, opO_NR fa n4 n5 _, opW_below .add _ _ (opW_below .sub _ _ (opW_below .sub _ _ (opW_below .sub _ _ (opW_below .sub _ _ (opW_below .add _ _ (Below.refl _ _))))))⟩
set_option maxHeartbeats 1000000 in
theorem twosum_any (a b : Nat) (ha : a < 18446744073709551616) (hb : b < 18446744073709551616) (w : World) :
    Calls Tryz.prog 5 #[.float .f64 a, .float .f64 b] w fun e w' => ∃ s r, e = .returned (.tuple #[.float .f64 s, .float .f64 r]) ∧ NR (tsS a b) s ∧ NR (tsR a b) r ∧ Below w.heap.size w w' := by
  have h1 := fun x y w => run_op4 (P := Tryz.prog) (op := .add) (Or.inl rfl) 22 x y w
  have h2 := fun x y w => run_op4 (P := Tryz.prog) (op := .sub) (Or.inr (Or.inl rfl)) 22 x y w
  have hcv := conv64
  have HN := two_facts a b ha hb w
  clear ha hb
  go_enter Tryz.func5, Tryz.ntmps5
  go_wp2
  exact bodyPost_ret (v := .tuple #[.float .f64 (vS a b w), .float .f64 (vE a b w)]) (by simp [results, Tryz.results5, go_sem, vS, vP, vQ, vX, vY, vE, uS, uP, uQ, uX, uY]) rfl ⟨_, _, rfl, HN.out.1, HN.out.2.1, HN.out.2.2⟩
set_option maxHeartbeats 1000000 in
theorem rtwosum_any (a b : Nat) (ha : a < 18446744073709551616) (hb : b < 18446744073709551616) (w : World) :
    Calls Tryz.prog 6 #[.float .f64 a, .float .f64 b] w fun e w' => ∃ s r, e = .returned (.tuple #[.float .f64 s, .float .f64 r]) ∧ NR (tsS a b) s ∧ NR (tsR a b) r ∧ Below w.heap.size w w' := by
  have h1 := fun x y w => run_op4 (P := Tryz.prog) (op := .add) (Or.inl rfl) 22 x y w
  have h2 := fun x y w => run_op4 (P := Tryz.prog) (op := .sub) (Or.inr (Or.inl rfl)) 22 x y w
  have hcv := conv64
  have HN := two_facts a b ha hb w
  clear ha hb
  go_enter Tryz.func6, Tryz.ntmps6
  go_wp2
  exact bodyPost_ret (v := .tuple #[.float .f64 (vS a b w), .float .f64 (vE a b w)]) (by simp [results, Tryz.results6, go_sem, vS, vP, vQ, vX, vY, vE, uS, uP, uQ, uX, uY]) rfl ⟨_, _, rfl, HN.out.1, HN.out.2.1, HN.out.2.2⟩
end Go.Proofs.YtggdjbdamaeikaaGreatDoor
