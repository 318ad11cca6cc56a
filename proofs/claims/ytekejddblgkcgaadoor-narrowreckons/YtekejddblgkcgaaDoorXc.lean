/- Conversions between floats of both widths, and what the small functions of narrow answer, call by call. A conversion of NaN draws its bits: what comes of it is some NaN. -/
import Derived.Test.YtekejddblgkcgaaDoorRows
import Derived.Test.YtekejddblgkcgaaDoorZw
import Derived.Test.YtekejddblgkcgaaDoorWa
namespace Go.Proofs.YtekejddblgkcgaaDoor
open Go.RowKit

theorem fmt32 : FloatKind.f32.format = Ieee.single := rfl
/-- The NaN that a conversion draws. -/
def ncW (x : Nat) (w : World) : Nat := (Question.nanConv .f64 x).cut (w.tape w.drawn (.nanConv .f64 x))
theorem ncW_nan (x : Nat) (w : World) : nanB (ncW x w) = true ∧ ncW x w < 18446744073709551616 := by
  unfold ncW Question.cut
  generalize w.tape w.drawn (Question.nanConv .f64 x) = t
  have h1 := Nat.mod_lt t (show 0 < 2 by omega)
  have h2 := Nat.mod_lt (t / 2) (show 0 < 2 ^ 52 - 1 by omega)
  unfold nanB rung
  simp only [decide_eq_true_eq]
  generalize t / 2 % (2 ^ 52 - 1) = y at *
  rcases (show t % 2 = 0 ∨ t % 2 = 1 by omega) with h | h
  · rw [h]; omega
  · rw [h]; omega
def nsW (x : Nat) (w : World) : Nat := (Question.nanConv .f32 x).cut (w.tape w.drawn (.nanConv .f32 x))
theorem nsW_nan (x : Nat) (w : World) : S.nanB (nsW x w) = true ∧ nsW x w < 4294967296 := by
  unfold nsW Question.cut
  generalize w.tape w.drawn (Question.nanConv .f32 x) = t
  have h1 := Nat.mod_lt t (show 0 < 2 by omega)
  have h2 := Nat.mod_lt (t / 2) (show 0 < 2 ^ 23 - 1 by omega)
  unfold S.nanB S.rung
  simp only [decide_eq_true_eq]
  generalize t / 2 % (2 ^ 23 - 1) = y at *
  rcases (show t % 2 = 0 ∨ t % 2 = 1 by omega) with h | h
  · rw [h]; omega
  · rw [h]; omega
theorem conv_def {src dst : TypeId} {s : FloatKind} {P : Program} (k : FloatKind) (b : Nat) (hs : P.underlying src = some (.float s)) (hd : P.underlying dst = some (.float k)) (w : World) : (convert src dst (.float s b)).run P w = (Conv.floatToFloat s b k).run P w := by
  simp [convert, run_underlying hs, run_underlying hd, Result.andThen]
theorem wide_num {P : Program} {src dst : TypeId} (hs : P.underlying src = some (.float .f32)) (hd : P.underlying dst = some (.float .f64)) {b : Nat} (hb : b < 4294967296) (hn : S.nanB b = false) (w : World) : (convert src dst (.float .f32 b)).run P w = .ok (.float .f64 (bk b)) w := by
  rw [conv_def .f64 b hs hd]
  have hle := s_nan_le hn
  unfold Conv.floatToFloat
  rw [if_neg (by decide)]
  show (match Ieee.single.read b with | .nan _ _ => _ | .infinity s => _ | .number s m e => _ : Sem Value).run P w = _
  by_cases hf : S.finB b = true
  · have hr := bk_parts hn
    have hbf : finB (bk b) = true := by rw [bk_fin hn]; exact hf
    rw [s_read_fin hb hf]
    show (if (Ieee.double.read (Ieee.double.nearest _ _ _)).isInfinity = true then _ else _ : Sem Value).run P w = _
    rw [wide_fin hf, read_fin hr.2.2.1 hbf, if_neg (by simp [Ieee.Datum.isInfinity])]
    show (pure (Value.float .f64 (Ieee.double.nearest _ _ _)) : Sem Value).run P w = _
    rw [wide_fin hf]
    rfl
  · have hi : S.rung b = 2139095040 := by
      have : ¬ S.rung b < 2139095040 := by simpa [S.finB] using hf
      omega
    rw [S.read_eq b hb, if_neg (by omega), if_pos hi]
    have e : bk b = Ieee.double.write (.infinity (S.sgn b)) := by
      unfold bk wr; rw [if_pos hi]; rfl
    rw [e]
    rfl
theorem wide_nan {P : Program} {src dst : TypeId} (hs : P.underlying src = some (.float .f32)) (hd : P.underlying dst = some (.float .f64)) {b : Nat} (hb : b < 4294967296) (hn : S.nanB b = true) (w : World) : (convert src dst (.float .f32 b)).run P w = .ok (.float .f64 (ncW b w)) w.drew := by
  rw [conv_def .f64 b hs hd]
  have hlt : 2139095040 < S.rung b := by simpa [S.nanB] using hn
  unfold Conv.floatToFloat
  rw [if_neg (by decide)]
  show (match Ieee.single.read b with | .nan _ _ => _ | .infinity s => _ | .number s m e => _ : Sem Value).run P w = _
  rw [S.read_eq b hb, if_neg (by omega), if_neg (by omega)]
  simp [Question.forced, ncW]
/-- Narrowing a narrow float's float gives it back. -/
theorem narrow_num {P : Program} {src dst : TypeId} (hs : P.underlying src = some (.float .f64)) (hd : P.underlying dst = some (.float .f32)) {b : Nat} (hb : b < 4294967296) (hn : S.nanB b = false) (w : World) : (convert src dst (.float .f64 (bk b))).run P w = .ok (.float .f32 b) w := by
  rw [conv_def .f32 (bk b) hs hd]
  have hle := s_nan_le hn
  have hr := bk_parts hn
  unfold Conv.floatToFloat
  rw [if_neg (by decide)]
  show (match Ieee.double.read (bk b) with | .nan _ _ => _ | .infinity s => _ | .number s m e => _ : Sem Value).run P w = _
  by_cases hf : S.finB b = true
  · have hbf : finB (bk b) = true := by rw [bk_fin hn]; exact hf
    rw [read_fin hr.2.2.1 hbf]
    show (if (Ieee.single.read (Ieee.single.nearest _ _ _)).isInfinity = true then _ else _ : Sem Value).run P w = _
    rw [narrow_bk hb hf, s_read_fin hb hf, if_neg (by simp [Ieee.Datum.isInfinity])]
    show (pure (Value.float .f32 (Ieee.single.nearest _ _ _)) : Sem Value).run P w = _
    rw [narrow_bk hb hf]
    rfl
  · have hi : S.rung b = 2139095040 := by
      have : ¬ S.rung b < 2139095040 := by simpa [S.finB] using hf
      omega
    have hrb : rung (bk b) = 9218868437227405312 := by rw [hr.1]; unfold wr; rw [if_pos hi]
    rw [read_eq (bk b) hr.2.2.1, if_neg (by omega), if_pos hrb, hr.2.1]
    have e : b = Ieee.single.write (.infinity (S.sgn b)) := by
      have h := s_rung_of b hb
      rw [hi] at h
      exact h
    show Result.ok (Value.float .f32 (Ieee.single.write (.infinity (S.sgn b)))) w = _
    rw [← e]
theorem narrow_nan {P : Program} {src dst : TypeId} (hs : P.underlying src = some (.float .f64)) (hd : P.underlying dst = some (.float .f32)) {b : Nat} (hb : b < 18446744073709551616) (hn : nanB b = true) (w : World) : (convert src dst (.float .f64 b)).run P w = .ok (.float .f32 (nsW b w)) w.drew := by
  rw [conv_def .f32 b hs hd]
  have hlt : 9218868437227405312 < rung b := by simpa [nanB] using hn
  unfold Conv.floatToFloat
  rw [if_neg (by decide)]
  show (match Ieee.double.read b with | .nan _ _ => _ | .infinity s => _ | .number s m e => _ : Sem Value).run P w = _
  rw [read_eq b hb, if_neg (by omega), if_neg (by omega)]
  simp [Question.forced, nsW]
set_option maxHeartbeats 400000 in
theorem n_back_any (b : Nat) (hb : b < 4294967296) (hn : S.nanB b = false) (w : World) :
    Calls Tryd.prog 9 #[.float .f32 b] w fun e w' => e = .returned (.float .f64 (bk b)) ∧ w' = w := by
  have hc := wide_num Tryd.underlying25 Tryd.underlying22 hb hn
  go_enter Tryd.func9, Tryd.ntmps9
  go_wp2
  go_ret
  exact ⟨rfl, rfl⟩
set_option maxHeartbeats 400000 in
theorem n_back_nan (b : Nat) (hb : b < 4294967296) (hn : S.nanB b = true) (w : World) :
    Calls Tryd.prog 9 #[.float .f32 b] w fun e w' => ∃ c, e = .returned (.float .f64 c) ∧ nanB c = true ∧ c < 18446744073709551616 ∧ w' = w.drew := by
  have hc := wide_nan Tryd.underlying25 Tryd.underlying22 hb hn
  go_enter Tryd.func9, Tryd.ntmps9
  go_wp2
  go_ret
  exact ⟨_, rfl, (ncW_nan b w).1, (ncW_nan b w).2, rfl⟩
end Go.Proofs.YtekejddblgkcgaaDoor
