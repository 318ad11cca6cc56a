/- NarrowTwice, whatever narrow floats it is given: the walk. -/
import Derived.Test.YtoggdckaimbjeaaDoorVt
namespace Go.Proofs.YtoggdckaimbjeaaDoor
open Go.RowKit

theorem toNS_op {op : BinOp} (hop : FourOp op) {a b c d t : Nat} {w : World} (hc : BkR a c) (hd : BkR b d) (h : ToR (opR op c d w) 0 t) : NS (opB op a b) t := by
  have hN := op_NR hop (a := c) (b := d) w
  rw [opB_of hop hc hd] at hN
  exact ToR_NS hN (fun v h => opB_nan hop h) h
theorem toNS_root {a c r t : Nat} (hc : BkR a c) (hr : NR (FloatKind.f64.format.sqrt c) r) (h : ToR r 0 t) : NS (rootB a) t := by
  rw [rootB_of hc] at hr
  exact ToR_NS hr (fun v h => rootB_nan h) h
theorem opR_lt {op : BinOp} (hop : FourOp op) (c d : Nat) (w : World) : opR op c d w < 18446744073709551616 := (op_NR hop w).1
set_option maxHeartbeats 2000000 in
theorem law_twice (a b : Nat) (ha : a < 4294967296) (hb : b < 4294967296) (w : World) (_hT : TabW w) :
    Calls Tryd.prog 5 #[.float .f32 a, .float .f32 b] w fun e w' => e = .returned (.bool true) ∧ Below w.heap.size w w' := by
  have A := n_back_all a ha
  have B := n_back_all b hb
  have hcv := conv64
  have h1 := fun c d w => run_op4 (P := Tryd.prog) (op := .add) (Or.inl rfl) 23 c d w
  have h2 := fun c d w => run_op4 (P := Tryd.prog) (op := .sub) (Or.inr (Or.inl rfl)) 23 c d w
  have h3 := fun c d w => run_op4 (P := Tryd.prog) (op := .mul) (Or.inr (Or.inr (Or.inl rfl))) 23 c d w
  have h4 := fun c d w => run_op4 (P := Tryd.prog) (op := .quo) (Or.inr (Or.inr (Or.inr rfl))) 23 c d w
  go_enter Tryd.func5, Tryd.ntmps5
  go_wp2_with (first
    | (go_at_call_of 31 (Value.float FloatKind.f32 a); refine (A _).mono ?_; rintro e w1 ⟨c, rfl, hc, b1⟩)
    | (go_at_call_of 31 (Value.float FloatKind.f32 b); refine (B _).mono ?_; rintro e w2 ⟨d, rfl, hd, b2⟩; have bz := opW_below .quo c d (opW_below .mul c d (opW_below .sub c d (opW_below .add c d (b1.trans (b2.mono b1.size))))))
    | (go_at_call 19; refine (n_add_any _ _ ha hb _).mono ?_; rintro e w3 ⟨n, rfl, hn, bn⟩; have bz := bz.trans (bn.mono bz.size))
    | (go_at_call 20; refine (n_sub_any _ _ ha hb _).mono ?_; rintro e w3 ⟨n, rfl, hn, bn⟩; have bz := bz.trans (bn.mono bz.size))
    | (go_at_call 21; refine (n_mul_any _ _ ha hb _).mono ?_; rintro e w3 ⟨n, rfl, hn, bn⟩; have bz := bz.trans (bn.mono bz.size))
    | (go_at_call 22; refine (n_div_any _ _ ha hb _).mono ?_; rintro e w3 ⟨n, rfl, hn, bn⟩; have bz := bz.trans (bn.mono bz.size))
    | (go_at_call 23; refine (n_sqrt_any _ ha _).mono ?_; rintro e w3 ⟨n, rfl, hn, bn⟩; have bz := bz.trans (bn.mono bz.size))
    | (go_at_call 33; refine (msqrt_all _ _).mono ?_; rintro e w3 ⟨r, rfl, hr, br⟩; have bz := bz.trans (br.mono bz.size); have hrl := hr.1)
    | (go_at_call 12; refine (n_to_any _ 0 (by first | assumption | exact opR_lt (Or.inl rfl) _ _ _ | exact opR_lt (Or.inr (Or.inl rfl)) _ _ _ | exact opR_lt (Or.inr (Or.inr (Or.inl rfl))) _ _ _ | exact opR_lt (Or.inr (Or.inr (Or.inr rfl))) _ _ _) _).mono ?_; rintro e w3 ⟨t, rfl, hT, bt⟩; have bz := bz.trans (bt.mono bz.size))
    | (go_at_call 32; refine (alike_any _ _ hn.1 hT.1 _).mono ?_; rw [NS_same hn (by first | exact toNS_op (Or.inl rfl) hc hd hT | exact toNS_op (Or.inr (Or.inl rfl)) hc hd hT | exact toNS_op (Or.inr (Or.inr (Or.inl rfl))) hc hd hT | exact toNS_op (Or.inr (Or.inr (Or.inr rfl))) hc hd hT | exact toNS_root hc hr hT)]; rintro e w' ⟨rfl, rfl⟩)
    | (go_at_call 25; refine (n_awake _).mono ?_; rintro e w' ⟨rfl, rfl⟩))
  go_ret
  exact ⟨rfl, bz⟩
end Go.Proofs.YtoggdckaimbjeaaDoor
