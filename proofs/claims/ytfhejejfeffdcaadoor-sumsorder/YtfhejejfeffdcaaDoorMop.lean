/- What the program's Neg and Sign answer of any dyad. -/
import Derived.Test.YtfhejejfeffdcaaDoorU6
namespace Go.Proofs.YtfhejejfeffdcaaDoor
open Go.RowKit

def negD (d : Dy) : Dy × Int := if rightB d then (trn d, 0) else (dy0, 2)
theorem sg_right {d : Dy} (hr : rightB d = true) : sgD d = sgI (sv d) := by
  unfold sgD
  rcases right_cases hr with h | ⟨h0, _, _, h3, _⟩
  · rw [h]; rfl
  · rw [if_neg h0]
    have hv := vl_ne_last h0 h3
    unfold sgI sv
    cases d.neg <;> simp <;> omega
theorem sign_all (d : Dy) (ao : Option Addr) (cap : Nat) (w : World) (hr : LRow w ao d.mag) (hL : Lm d.mag) :
    Calls Tryd.prog 72 #[.agg #[.bool d.neg, .slice ao d.mag.length cap, .int .i64 d.exp]] w fun e w' => e = .returned (.tuple #[.int .i64 (signD d).1, .int .i64 (signD d).2]) ∧ Below w.heap.size w w' := by
  obtain ⟨neg, xs, ex⟩ := d
  unfold signD
  cases hrt : rightB ⟨neg, xs, ex⟩
  · exact Sign_arg neg xs ex ao cap w hr hL hrt
  · have h := Sign_ok neg xs ex ao cap w hr hL hrt
    rw [sg_right hrt] at h
    exact h
end Go.Proofs.YtfhejejfeffdcaaDoor
