/- TwoProd on both sides; SumsTwo, of any two floats: both sides are one. -/
import Derived.Test.YtflbglbhmdpmoaaGreatDoorRA
import Derived.Test.YtflbglbhmdpmoaaGreatDoorU10
import Derived.Test.YtflbglbhmdpmoaaGreatDoorU11
import Derived.Test.YtflbglbhmdpmoaaGreatDoorBn
namespace Go.Proofs.YtflbglbhmdpmoaaGreatDoor
open Go.RowKit

def tsS (a b : Nat) : Option Nat := opO .add (toO a) (toO b)
def tsP (a b : Nat) : Option Nat := opO .sub (tsS a b) (toO a)
def tsR (a b : Nat) : Option Nat := opO .add (opO .sub (toO a) (opO .sub (tsS a b) (tsP a b))) (opO .sub (toO b) (tsP a b))
def vS (a b : Nat) (w : World) : Nat := opR .add a b w
def uS (a b : Nat) (w : World) : World := opW .add a b w
def vP (a b : Nat) (w : World) : Nat := opR .sub (vS a b w) a (uS a b w)
def uP (a b : Nat) (w : World) : World := opW .sub (vS a b w) a (uS a b w)
def vQ (a b : Nat) (w : World) : Nat := opR .sub (vS a b w) (vP a b w) (uP a b w)
def uQ (a b : Nat) (w : World) : World := opW .sub (vS a b w) (vP a b w) (uP a b w)
def vX (a b : Nat) (w : World) : Nat := opR .sub a (vQ a b w) (uQ a b w)
def uX (a b : Nat) (w : World) : World := opW .sub a (vQ a b w) (uQ a b w)
def vY (a b : Nat) (w : World) : Nat := opR .sub b (vP a b w) (uX a b w)
def uY (a b : Nat) (w : World) : World := opW .sub b (vP a b w) (uX a b w)
def vE (a b : Nat) (w : World) : Nat := opR .add (vX a b w) (vY a b w) (uY a b w)
theorem two_facts (a b : Nat) (ha : a < 18446744073709551616) (hb : b < 18446744073709551616) (w : World) : Hid (NR (tsS a b) (vS a b w) ∧ NR (tsR a b) (vE a b w) ∧ Below w.heap.size w (opW .add (vX a b w) (vY a b w) (uY a b w))) := by
  show _ ∧ _
  have fa : FourOp .add := Or.inl rfl
  have fs : FourOp .sub := Or.inr (Or.inl rfl)
  have na := toO_NR ha
  have nb := toO_NR hb
  have n1 : NR (tsS a b) (vS a b w) := opO_NR fa na nb w
  have n2 : NR (tsP a b) (vP a b w) := opO_NR fs n1 na _
  have n3 : NR (opO .sub (tsS a b) (tsP a b)) (vQ a b w) := opO_NR fs n1 n2 _
  have n4 : NR (opO .sub (toO a) (opO .sub (tsS a b) (tsP a b))) (vX a b w) := opO_NR fs na n3 _
  have n5 : NR (opO .sub (toO b) (tsP a b)) (vY a b w) := opO_NR fs nb n2 _
  exact ⟨n1, opO_NR fa n4 n5 _, opW_below .add _ _ (opW_below .sub _ _ (opW_below .sub _ _ (opW_below .sub _ _ (opW_below .sub _ _ (opW_below .add _ _ (Below.refl _ _))))))⟩
set_option maxHeartbeats 1000000 in
theorem twosum_any (a b : Nat) (ha : a < 18446744073709551616) (hb : b < 18446744073709551616) (w : World) :
    Calls Tryz.prog 45 #[.float .f64 a, .float .f64 b] w fun e w' => ∃ s r, e = .returned (.tuple #[.float .f64 s, .float .f64 r]) ∧ NR (tsS a b) s ∧ NR (tsR a b) r ∧ Below w.heap.size w w' := by
  have h1 := fun x y w => run_op4 (P := Tryz.prog) (op := .add) (Or.inl rfl) 26 x y w
  have h2 := fun x y w => run_op4 (P := Tryz.prog) (op := .sub) (Or.inr (Or.inl rfl)) 26 x y w
  have hcv := conv64
  have HN := two_facts a b ha hb w
  clear ha hb
  go_enter Tryz.func45, Tryz.ntmps45
  go_wp2
  exact bodyPost_ret (v := .tuple #[.float .f64 (vS a b w), .float .f64 (vE a b w)]) (by simp [results, Tryz.results45, go_sem, vS, vP, vQ, vX, vY, vE, uS, uP, uQ, uX, uY]) rfl ⟨_, _, rfl, HN.out.1, HN.out.2.1, HN.out.2.2⟩
set_option maxHeartbeats 1000000 in
theorem rtwosum_any (a b : Nat) (ha : a < 18446744073709551616) (hb : b < 18446744073709551616) (w : World) :
    Calls Tryz.prog 58 #[.float .f64 a, .float .f64 b] w fun e w' => ∃ s r, e = .returned (.tuple #[.float .f64 s, .float .f64 r]) ∧ NR (tsS a b) s ∧ NR (tsR a b) r ∧ Below w.heap.size w w' := by
  have h1 := fun x y w => run_op4 (P := Tryz.prog) (op := .add) (Or.inl rfl) 26 x y w
  have h2 := fun x y w => run_op4 (P := Tryz.prog) (op := .sub) (Or.inr (Or.inl rfl)) 26 x y w
  have hcv := conv64
  have HN := two_facts a b ha hb w
  clear ha hb
  go_enter Tryz.func58, Tryz.ntmps58
  go_wp2
  exact bodyPost_ret (v := .tuple #[.float .f64 (vS a b w), .float .f64 (vE a b w)]) (by simp [results, Tryz.results58, go_sem, vS, vP, vQ, vX, vY, vE, uS, uP, uQ, uX, uY]) rfl ⟨_, _, rfl, HN.out.1, HN.out.2.1, HN.out.2.2⟩
end Go.Proofs.YtflbglbhmdpmoaaGreatDoor

namespace Go.Proofs.YtflbglbhmdpmoaaGreatDoor
open Go.RowKit

/-- What a product loses, all NaN as one. -/
def tpO (a b : Nat) : Option Nat := (floatBits .mul .f64 a b).bind fun p => fuO a b (negW p) 0
theorem tp_told {a b r : Nat} (ha : a < 18446744073709551616) (hb : b < 18446744073709551616) (h : NR (floatBits .mul .f64 a b) r) : fuO a b (negW r) 0 = tpO a b := by
  unfold tpO
  cases hm : floatBits .mul .f64 a b with
  | some p =>
    rw [hm] at h
    have e : r = p := h.2
    rw [e]
    rfl
  | none =>
    have hf : (finB a && finB b) = false := by
      cases fa : finB a
      · rfl
      · cases fb : finB b
        · rfl
        · rw [(fbits_map a b).2.2.1, read_fin ha fa, read_fin hb fb] at hm
          cases hm
    unfold fuO fuI
    rw [hf, hm]
    rfl
set_option maxHeartbeats 1000000 in
theorem twoprod_any (a b : Nat) (ha : a < 18446744073709551616) (hb : b < 18446744073709551616) (w : World) (hT : TabW w) :
    Calls Tryz.prog 59 #[.float .f64 a, .float .f64 b] w fun e w' => ∃ s r, e = .returned (.tuple #[.float .f64 s, .float .f64 r]) ∧ NR (floatBits .mul .f64 a b) s ∧ NR (tpO a b) r ∧ Below w.heap.size w w' := by
  have f4 : FourOp .mul := Or.inr (Or.inr (Or.inl rfl))
  have h1 := run_op4 (P := Tryz.prog) (op := .mul) f4 26 a b w
  have hcv := conv64
  have hu := run_negf
  have hN := op_NR (op := .mul) f4 (a := a) (b := b) w
  have hB := opW_below .mul a b (Below.refl w.heap.size w)
  have cf := fun W h => rfused_any a b (negW (opR .mul a b w)) 0 ha hb (negW_lt hN.1) W h
  simp only [tp_told ha hb hN] at cf
  have hT2 := tabW_below hT hB
  clear f4 hT
  generalize opR .mul a b w = p at *
  generalize opW .mul a b w = w0 at *
  go_enter Tryz.func59, Tryz.ntmps59
  go_wp2_with (go_at_call 91; refine (cf _ hT2).mono ?_; rintro e w1 ⟨r, rfl, n1, b1⟩)
  exact bodyPost_ret (v := .tuple #[.float .f64 p, .float .f64 r]) (by simp [results, Tryz.results59, go_sem]) rfl ⟨_, _, rfl, hN, n1, hB.trans (b1.mono hB.size)⟩
end Go.Proofs.YtflbglbhmdpmoaaGreatDoor

namespace Go.Proofs.YtflbglbhmdpmoaaGreatDoor
open Go.RowKit

set_option maxHeartbeats 1000000 in
theorem rtwoprod_any (a b : Nat) (ha : a < 18446744073709551616) (hb : b < 18446744073709551616) (w : World) :
    Calls Tryz.prog 60 #[.float .f64 a, .float .f64 b] w fun e w' => ∃ s r, e = .returned (.tuple #[.float .f64 s, .float .f64 r]) ∧ NR (floatBits .mul .f64 a b) s ∧ NR (tpO a b) r ∧ Below w.heap.size w w' := by
  have f4 : FourOp .mul := Or.inr (Or.inr (Or.inl rfl))
  have h1 := run_op4 (P := Tryz.prog) (op := .mul) f4 26 a b w
  have hcv := conv64
  have hu := run_negf
  have hN := op_NR (op := .mul) f4 (a := a) (b := b) w
  have hB := opW_below .mul a b (Below.refl w.heap.size w)
  have cf := fun W => dfused_any a b (negW (opR .mul a b w)) 0 ha hb (negW_lt hN.1) W
  simp only [tp_told ha hb hN] at cf
  clear f4
  generalize opR .mul a b w = p at *
  generalize opW .mul a b w = w0 at *
  go_enter Tryz.func60, Tryz.ntmps60
  go_wp2_with (go_at_call 92; refine (cf _).mono ?_; rintro e w1 ⟨r, rfl, n1, b1⟩)
  exact bodyPost_ret (v := .tuple #[.float .f64 p, .float .f64 r]) (by simp [results, Tryz.results60, go_sem]) rfl ⟨_, _, rfl, hN, n1, hB.trans (b1.mono hB.size)⟩
set_option maxRecDepth 100000 in
set_option maxHeartbeats 1000000 in
theorem two_law (a b : Nat) (ha : a < 18446744073709551616) (hb : b < 18446744073709551616) (w : World) (hT : TabW w) :
    Calls Tryz.prog 27 #[.float .f64 a, .float .f64 b] w fun e w' => e = .returned (.bool true) ∧ Below w.heap.size w w' := by
  have c1 := fun W => twosum_any a b ha hb W
  have c2 := fun W => rtwosum_any a b ha hb W
  have c3 := fun W h => twoprod_any a b ha hb W h
  have c4 := fun W => rtwoprod_any a b ha hb W
  generalize tsS a b = o1 at *
  generalize tsR a b = o2 at *
  generalize floatBits .mul .f64 a b = o3 at *
  generalize tpO a b = o4 at *
  go_enter Tryz.func27, Tryz.ntmps27
  go_wp2_with (first
    | (go_at_call 45; refine (c1 _).mono ?_; rintro e w1 ⟨s1, r1, rfl, n1, m1, b1⟩)
    | (go_at_call 58; refine (c2 _).mono ?_; rintro e w2 ⟨s2, r2, rfl, n2, m2, b2⟩; have B2 := b1.trans (b2.mono b1.size))
    | (go_at_call 59; refine (c3 _ (tabW_below hT B2)).mono ?_; rintro e w3 ⟨s3, r3, rfl, n3, m3, b3⟩; have B3 := B2.trans (b3.mono B2.size))
    | (go_at_call 60; refine (c4 _).mono ?_; rintro e w4 ⟨s4, r4, rfl, n4, m4, b4⟩; have B4 := B3.trans (b4.mono B3.size))
    | (go_at_call_of 11 (Value.float FloatKind.f64 s1); refine (sameNR n1 n2 _).mono ?_; rintro e w' ⟨rfl, h'⟩; subst w')
    | (go_at_call_of 11 (Value.float FloatKind.f64 r1); refine (sameNR m1 m2 _).mono ?_; rintro e w' ⟨rfl, h'⟩; subst w')
    | (go_at_call_of 11 (Value.float FloatKind.f64 s3); refine (sameNR n3 n4 _).mono ?_; rintro e w' ⟨rfl, h'⟩; subst w')
    | (go_at_call_of 11 (Value.float FloatKind.f64 r3); refine (sameNR m3 m4 _).mono ?_; rintro e w' ⟨rfl, h'⟩; subst w')
    | (go_at_call 12; refine (uawake _ (tabW_below hT B4)).mono ?_; rintro e w7 ⟨rfl, b7⟩))
  go_ret
  exact ⟨rfl, B4.trans (b7.mono B4.size)⟩
end Go.Proofs.YtflbglbhmdpmoaaGreatDoor
