/- What narrow's To and Fits answer, where what the conversion gives is known. -/
import Derived.Test.YtlmllpkcmfnpnaaDoorXe
namespace Go.Proofs.YtlmllpkcmfnpnaaDoor
open Go.RowKit

theorem s_word (s : Bool) (r : Nat) (hr : r ≤ 2139095040) : S.rung (Ieee.single.word s r) = r ∧ S.sgn (Ieee.single.word s r) = s ∧ Ieee.single.word s r < 4294967296 ∧ S.nanB (Ieee.single.word s r) = false := by
  have s1 : Ieee.single.signWeight = 2147483648 := by decide
  unfold Ieee.Format.word
  rw [s1]
  cases s
  · have e : S.rung r = r := by unfold S.rung; omega
    refine ⟨e, ?_, ?_, ?_⟩
    · unfold S.sgn; simp; omega
    · simp; omega
    · unfold S.nanB; simp [e]; omega
  · have e : S.rung (2147483648 + r) = r := by unfold S.rung; omega
    refine ⟨e, ?_, ?_, ?_⟩
    · unfold S.sgn; simp
    · simp; omega
    · unfold S.nanB; simp [e]; omega
/-- A narrow float with the sign of a float. -/
def sCpy (a x : Nat) : Nat := Ieee.single.word (sgn x) (S.rung a)
theorem cpy_bk {a x : Nat} (hn : S.nanB a = false) : cpy (bk a) x = bk (sCpy a x) := by
  obtain ⟨h1, h2, h3, h4⟩ := bk_parts hn
  obtain ⟨g1, g2, _, _⟩ := s_word (sgn x) (S.rung a) (s_nan_le hn)
  unfold sCpy cpy
  rw [h1]
  unfold bk
  rw [g1, g2]
  cases sgn x
  · rw [word_pos]; simp
  · rw [word_neg]; simp; omega
/-- The step that To takes from the nearest. -/
def toW (x near : Nat) (dn up : Bool) : Nat := if dn && decide (place x < place (bk near)) || up && decide (place (bk near) < place x) then sCpy (sNext near up) x else near
theorem toW_ok {x near : Nat} (hn : S.nanB near = false) (hl : near < 4294967296) (dn up : Bool) : S.nanB (toW x near dn up) = false ∧ toW x near dn up < 4294967296 := by
  unfold toW
  split
  · obtain ⟨h1, h2⟩ := s_next_ok hn up
    obtain ⟨_, _, g3, g4⟩ := s_word (sgn x) (S.rung (sNext near up)) (s_nan_le h1)
    exact ⟨g4, g3⟩
  · exact ⟨hn, hl⟩
def toDn (m : Int) (s : Bool) : Bool := m == 1 || m == 3 && !s
def toUp (m : Int) (s : Bool) : Bool := m == 2 || m == 3 && s
set_option maxHeartbeats 1600000 in
theorem n_to_num (x near : Nat) (m : Int) (hx : x < 18446744073709551616) (nx : nanB x = false) (hl : near < 4294967296) (hn : S.nanB near = false)
    (hc : ∀ w, (convert 30 22 (.float .f64 x)).run Tryd.prog w = .ok (.float .f32 near) w) (w : World) :
    Calls Tryd.prog 24 #[.float .f64 x, .int .i8 m] w fun e w' => e = .returned (.float .f32 (toW x near (toDn m (sgn x)) (toUp m (sgn x)))) ∧ w' = w := by
  obtain ⟨_, _, h3, h4⟩ := bk_parts hn
  have hgt := gt_num h3 hx h4 nx
  have hlt := lt_num h3 hx h4 nx
  have hcb := fun up => narrow_num Tryd.underlying30 Tryd.underlying22 (b := sCpy (sNext near up) x) (s_word (sgn x) _ (s_nan_le (s_next_ok hn up).1)).2.2.1 (s_word (sgn x) _ (s_nan_le (s_next_ok hn up).1)).2.2.2
  have hb2 := fun up => n_back_any (sNext near up) (s_next_ok hn up).2 (s_next_ok hn up).1
  have hcp : ∀ up, cpy (bk (sNext near up)) x = bk (sCpy (sNext near up) x) := fun up => cpy_bk (s_next_ok hn up).1
  have hbl := fun up => (bk_parts (s_next_ok hn up).1).2.2.1
  obtain ⟨sx, hs⟩ : ∃ s, sgn x = s := ⟨_, rfl⟩
  rw [hs]
  rcases (show m = 1 ∨ m = 2 ∨ m = 3 ∨ (m ≠ 1 ∧ m ≠ 2 ∧ m ≠ 3) by omega) with rfl | rfl | rfl | ⟨m1, m2, m3⟩
  · rw [show toDn 1 sx = true from rfl, show toUp 1 sx = false from rfl]
    by_cases hp : place x < place (bk near)
    · rw [decide_eq_true hp] at hgt
      have HE : Hid (toW x near true false = sCpy (sNext near false) x) := (show toW x near true false = sCpy (sNext near false) x by unfold toW; simp [hp])
      clear hp hlt
      go_enter Tryd.func24, Tryd.ntmps24
      go_wp2_with (first | (go_at_call 33; refine (signbit_any _ hx _).mono ?_; rw [hs]; rintro e w' ⟨rfl, rfl⟩) | (go_at_call 12; refine (n_next_num _ _ hl hn _).mono ?_; rintro e w' ⟨rfl, rfl⟩) | (go_at_call_of 16 (Value.float FloatKind.f32 near); refine (n_back_any _ hl hn _).mono ?_; rintro e w' ⟨rfl, rfl⟩) | (go_at_call 16; refine (hb2 _ _).mono ?_; rintro e w' ⟨rfl, rfl⟩) | (go_at_call 34; refine (copysign_any _ _ (hbl _) hx _).mono ?_; rw [hcp]; rintro e w' ⟨rfl, rfl⟩))
      go_ret
      exact ⟨end_flt32 HE.out.symm, rfl⟩
    · rw [decide_eq_false hp] at hgt
      have HE : Hid (toW x near true false = near) := (show toW x near true false = near by unfold toW; simp [hp])
      clear hp hlt
      go_enter Tryd.func24, Tryd.ntmps24
      go_wp2_with (first | (go_at_call 33; refine (signbit_any _ hx _).mono ?_; rw [hs]; rintro e w' ⟨rfl, rfl⟩) | (go_at_call 12; refine (n_next_num _ _ hl hn _).mono ?_; rintro e w' ⟨rfl, rfl⟩) | (go_at_call_of 16 (Value.float FloatKind.f32 near); refine (n_back_any _ hl hn _).mono ?_; rintro e w' ⟨rfl, rfl⟩) | (go_at_call 16; refine (hb2 _ _).mono ?_; rintro e w' ⟨rfl, rfl⟩) | (go_at_call 34; refine (copysign_any _ _ (hbl _) hx _).mono ?_; rw [hcp]; rintro e w' ⟨rfl, rfl⟩))
      go_ret
      exact ⟨end_flt32 HE.out.symm, rfl⟩
  · rw [show toDn 2 sx = false from rfl, show toUp 2 sx = true from rfl]
    by_cases hp : place (bk near) < place x
    · rw [decide_eq_true hp] at hlt
      have HE : Hid (toW x near false true = sCpy (sNext near true) x) := (show toW x near false true = sCpy (sNext near true) x by unfold toW; simp [hp])
      clear hp hgt
      go_enter Tryd.func24, Tryd.ntmps24
      go_wp2_with (first | (go_at_call 33; refine (signbit_any _ hx _).mono ?_; rw [hs]; rintro e w' ⟨rfl, rfl⟩) | (go_at_call 12; refine (n_next_num _ _ hl hn _).mono ?_; rintro e w' ⟨rfl, rfl⟩) | (go_at_call_of 16 (Value.float FloatKind.f32 near); refine (n_back_any _ hl hn _).mono ?_; rintro e w' ⟨rfl, rfl⟩) | (go_at_call 16; refine (hb2 _ _).mono ?_; rintro e w' ⟨rfl, rfl⟩) | (go_at_call 34; refine (copysign_any _ _ (hbl _) hx _).mono ?_; rw [hcp]; rintro e w' ⟨rfl, rfl⟩))
      go_ret
      exact ⟨end_flt32 HE.out.symm, rfl⟩
    · rw [decide_eq_false hp] at hlt
      have HE : Hid (toW x near false true = near) := (show toW x near false true = near by unfold toW; simp [hp])
      clear hp hgt
      go_enter Tryd.func24, Tryd.ntmps24
      go_wp2_with (first | (go_at_call 33; refine (signbit_any _ hx _).mono ?_; rw [hs]; rintro e w' ⟨rfl, rfl⟩) | (go_at_call 12; refine (n_next_num _ _ hl hn _).mono ?_; rintro e w' ⟨rfl, rfl⟩) | (go_at_call_of 16 (Value.float FloatKind.f32 near); refine (n_back_any _ hl hn _).mono ?_; rintro e w' ⟨rfl, rfl⟩) | (go_at_call 16; refine (hb2 _ _).mono ?_; rintro e w' ⟨rfl, rfl⟩) | (go_at_call 34; refine (copysign_any _ _ (hbl _) hx _).mono ?_; rw [hcp]; rintro e w' ⟨rfl, rfl⟩))
      go_ret
      exact ⟨end_flt32 HE.out.symm, rfl⟩
  · cases sx
    · rw [show toDn 3 false = true from rfl, show toUp 3 false = false from rfl]
      by_cases hp : place x < place (bk near)
      · rw [decide_eq_true hp] at hgt
        have HE : Hid (toW x near true false = sCpy (sNext near false) x) := (show toW x near true false = sCpy (sNext near false) x by unfold toW; simp [hp])
        clear hp hlt
        go_enter Tryd.func24, Tryd.ntmps24
        go_wp2_with (first | (go_at_call 33; refine (signbit_any _ hx _).mono ?_; rw [hs]; rintro e w' ⟨rfl, rfl⟩) | (go_at_call 12; refine (n_next_num _ _ hl hn _).mono ?_; rintro e w' ⟨rfl, rfl⟩) | (go_at_call_of 16 (Value.float FloatKind.f32 near); refine (n_back_any _ hl hn _).mono ?_; rintro e w' ⟨rfl, rfl⟩) | (go_at_call 16; refine (hb2 _ _).mono ?_; rintro e w' ⟨rfl, rfl⟩) | (go_at_call 34; refine (copysign_any _ _ (hbl _) hx _).mono ?_; rw [hcp]; rintro e w' ⟨rfl, rfl⟩))
        go_ret
        exact ⟨end_flt32 HE.out.symm, rfl⟩
      · rw [decide_eq_false hp] at hgt
        have HE : Hid (toW x near true false = near) := (show toW x near true false = near by unfold toW; simp [hp])
        clear hp hlt
        go_enter Tryd.func24, Tryd.ntmps24
        go_wp2_with (first | (go_at_call 33; refine (signbit_any _ hx _).mono ?_; rw [hs]; rintro e w' ⟨rfl, rfl⟩) | (go_at_call 12; refine (n_next_num _ _ hl hn _).mono ?_; rintro e w' ⟨rfl, rfl⟩) | (go_at_call_of 16 (Value.float FloatKind.f32 near); refine (n_back_any _ hl hn _).mono ?_; rintro e w' ⟨rfl, rfl⟩) | (go_at_call 16; refine (hb2 _ _).mono ?_; rintro e w' ⟨rfl, rfl⟩) | (go_at_call 34; refine (copysign_any _ _ (hbl _) hx _).mono ?_; rw [hcp]; rintro e w' ⟨rfl, rfl⟩))
        go_ret
        exact ⟨end_flt32 HE.out.symm, rfl⟩
    · rw [show toDn 3 true = false from rfl, show toUp 3 true = true from rfl]
      by_cases hp : place (bk near) < place x
      · rw [decide_eq_true hp] at hlt
        have HE : Hid (toW x near false true = sCpy (sNext near true) x) := (show toW x near false true = sCpy (sNext near true) x by unfold toW; simp [hp])
        clear hp hgt
        go_enter Tryd.func24, Tryd.ntmps24
        go_wp2_with (first | (go_at_call 33; refine (signbit_any _ hx _).mono ?_; rw [hs]; rintro e w' ⟨rfl, rfl⟩) | (go_at_call 12; refine (n_next_num _ _ hl hn _).mono ?_; rintro e w' ⟨rfl, rfl⟩) | (go_at_call_of 16 (Value.float FloatKind.f32 near); refine (n_back_any _ hl hn _).mono ?_; rintro e w' ⟨rfl, rfl⟩) | (go_at_call 16; refine (hb2 _ _).mono ?_; rintro e w' ⟨rfl, rfl⟩) | (go_at_call 34; refine (copysign_any _ _ (hbl _) hx _).mono ?_; rw [hcp]; rintro e w' ⟨rfl, rfl⟩))
        go_ret
        exact ⟨end_flt32 HE.out.symm, rfl⟩
      · rw [decide_eq_false hp] at hlt
        have HE : Hid (toW x near false true = near) := (show toW x near false true = near by unfold toW; simp [hp])
        clear hp hgt
        go_enter Tryd.func24, Tryd.ntmps24
        go_wp2_with (first | (go_at_call 33; refine (signbit_any _ hx _).mono ?_; rw [hs]; rintro e w' ⟨rfl, rfl⟩) | (go_at_call 12; refine (n_next_num _ _ hl hn _).mono ?_; rintro e w' ⟨rfl, rfl⟩) | (go_at_call_of 16 (Value.float FloatKind.f32 near); refine (n_back_any _ hl hn _).mono ?_; rintro e w' ⟨rfl, rfl⟩) | (go_at_call 16; refine (hb2 _ _).mono ?_; rintro e w' ⟨rfl, rfl⟩) | (go_at_call 34; refine (copysign_any _ _ (hbl _) hx _).mono ?_; rw [hcp]; rintro e w' ⟨rfl, rfl⟩))
        go_ret
        exact ⟨end_flt32 HE.out.symm, rfl⟩
  · have hm1 : (m == 1) = false := by simpa using m1
    have hm2 : (m == 2) = false := by simpa using m2
    have hm3 : (m == 3) = false := by simpa using m3
    have HE : Hid (toW x near (toDn m sx) (toUp m sx) = near) := (show toW x near (toDn m sx) (toUp m sx) = near by unfold toW toDn toUp; simp [hm1, hm2, hm3])
    clear m1 m2 m3
    go_enter Tryd.func24, Tryd.ntmps24
    go_wp2_with (first | (go_at_call 33; refine (signbit_any _ hx _).mono ?_; rw [hs]; rintro e w' ⟨rfl, rfl⟩) | (go_at_call 12; refine (n_next_num _ _ hl hn _).mono ?_; rintro e w' ⟨rfl, rfl⟩) | (go_at_call_of 16 (Value.float FloatKind.f32 near); refine (n_back_any _ hl hn _).mono ?_; rintro e w' ⟨rfl, rfl⟩) | (go_at_call 16; refine (hb2 _ _).mono ?_; rintro e w' ⟨rfl, rfl⟩) | (go_at_call 34; refine (copysign_any _ _ (hbl _) hx _).mono ?_; rw [hcp]; rintro e w' ⟨rfl, rfl⟩))
    go_ret
    exact ⟨end_flt32 HE.out.symm, rfl⟩
set_option maxHeartbeats 1600000 in
theorem n_to_nan (x : Nat) (m : Int) (hx : x < 18446744073709551616) (nx : nanB x = true) (w : World) :
    Calls Tryd.prog 24 #[.float .f64 x, .int .i8 m] w fun e w' => ∃ n, e = .returned (.float .f32 n) ∧ S.nanB n = true ∧ n < 4294967296 ∧ Below w.heap.size w w' := by
  have hc := narrow_nan (P := Tryd.prog) Tryd.underlying30 Tryd.underlying22 hx nx
  obtain ⟨n1, n2⟩ := nsW_nan x w
  obtain ⟨near, hnear⟩ : ∃ n, nsW x w = n := ⟨_, rfl⟩
  have hcw := hc w
  rw [hnear] at hcw n1 n2
  clear hc
  have ho : ∀ c, c < 18446744073709551616 → FloatKind.f64.format.order c x = none := fun c h => ord_nan h hx (Or.inr nx)
  have hgt : (FloatKind.f64.format.order 0 0 == some .gt) = false := by kernel_rfl
  obtain ⟨sx, hs⟩ : ∃ s, sgn x = s := ⟨_, rfl⟩
  have hb := fun w => n_back_nan near n2 n1 w
  have B0 := below_drew1 w
  rcases (show m = 1 ∨ m = 2 ∨ m = 3 ∨ (m ≠ 1 ∧ m ≠ 2 ∧ m ≠ 3) by omega) with rfl | rfl | rfl | ⟨m1, m2, m3⟩
  case inr.inr.inr =>
    have hm1 : (m == 1) = false := by simpa using m1
    have hm2 : (m == 2) = false := by simpa using m2
    have hm3 : (m == 3) = false := by simpa using m3
    clear m1 m2 m3
    go_enter Tryd.func24, Tryd.ntmps24
    go_wp2_with (first | (go_at_call 33; refine (signbit_any _ hx _).mono ?_; rw [hs]; rintro e w' ⟨rfl, rfl⟩))
    go_ret
    exact ⟨_, rfl, n1, n2, B0⟩
  all_goals cases sx
  all_goals
    go_enter Tryd.func24, Tryd.ntmps24
    go_wp2_with (first | (go_at_call 33; refine (signbit_any _ hx _).mono ?_; rw [hs]; rintro e w' ⟨rfl, rfl⟩) | (go_at_call 16; refine (hb _).mono ?_; rintro e w1 ⟨c, rfl, c1, c2, rfl⟩; have hoc := ho c c2))
    go_ret
    exact ⟨_, rfl, n1, n2, B0.drew⟩
end Go.Proofs.YtlmllpkcmfnpnaaDoor
