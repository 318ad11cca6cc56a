/- What narrow's nearest and To answer, whatever float it is. -/
import Derived.Test.YtekejddblgkcgaaDoorXe
import Derived.Test.YtekejddblgkcgaaDoorXx
namespace Go.Proofs.YtekejddblgkcgaaDoor
open Go.RowKit

/-- A narrow float with the sign of a float. -/
def sCpy (a x : Nat) : Nat := Ieee.single.word (sgn x) (S.rung a)
theorem cpy_bk {a x : Nat} (hn : S.nanB a = false) : cpy (bk a) x = bk (sCpy a x) := by
  obtain ⟨h1, h2, h3, h4⟩ := bk_parts hn
  obtain ⟨g1, g2, _, _⟩ := s_word (sgn x) (S.rung a) (s_nan_le hn)
  unfold sCpy cpy
  rw [h1]
  unfold bk
  rw [g1, g2]
  cases sgn x
  · rw [word_pos]; simp
  · rw [word_neg]; simp; omega
/-- The step that To takes from the nearest. -/
def toW (x near : Nat) (dn up : Bool) : Nat := if dn && decide (place x < place (bk near)) || up && decide (place (bk near) < place x) then sCpy (sNext near up) x else near
theorem toW_ok {x near : Nat} (hn : S.nanB near = false) (hl : near < 4294967296) (dn up : Bool) : S.nanB (toW x near dn up) = false ∧ toW x near dn up < 4294967296 := by
  unfold toW
  split
  · obtain ⟨h1, h2⟩ := s_next_ok hn up
    obtain ⟨_, _, g3, g4⟩ := s_word (sgn x) (S.rung (sNext near up)) (s_nan_le h1)
    exact ⟨g4, g3⟩
  · exact ⟨hn, hl⟩
def toDn (m : Int) (s : Bool) : Bool := m == 1 || m == 3 && !s
def toUp (m : Int) (s : Bool) : Bool := m == 2 || m == 3 && s
theorem conv_zero {x : Nat} (hx : x < 18446744073709551616) (h0 : rung x = 0) : x = bk (Ieee.single.word (sgn x) 0) := by
  obtain ⟨g1, g2, _, g4⟩ := s_word (sgn x) 0 (by omega)
  unfold bk
  rw [g1, g2, wr_zero]
  have h := rung_of x hx
  rw [h0] at h
  have d1 : Ieee.double.signWeight = 9223372036854775808 := by decide
  unfold Ieee.Format.word
  rw [d1]
  cases hs : sgn x <;> rw [hs] at h <;> simp at h ⊢ <;> omega
theorem nr_conv {x : Nat} (hx : x < 18446744073709551616) (hr : rung x < 5183643170835005440) (w : World) : (convert 22 25 (.float .f64 x)).run Tryd.prog w = .ok (.float .f32 (nrW x)) w := by
  have hf : finB x = true := by unfold finB; simp; omega
  by_cases h0 : rung x = 0
  · have e := conv_zero hx h0
    obtain ⟨_, _, g3, g4⟩ := s_word (sgn x) 0 (by omega)
    have h := narrow_num (P := Tryd.prog) Tryd.underlying22 Tryd.underlying25 g3 g4 w
    rw [← e] at h
    rw [h]
    unfold nrW
    rw [if_pos h0]
  · rw [narrow_fit Tryd.underlying22 Tryd.underlying25 hx hf h0 (tg_less h0 hr)]
    unfold nrW
    rw [if_neg h0, if_pos hf]
theorem ge_tg {x : Nat} (hx : x < 18446744073709551616) (nx : nanB x = false) : (FloatKind.f64.format.order x 5183643170835005440 == some .gt || FloatKind.f64.format.order x 5183643170835005440 == some .eq) = decide (5183643170835005440 ≤ place x) := by
  rw [gt_num hx (by omega) nx (by decide), eq_num hx (by omega) nx (by decide), show place 5183643170835005440 = 5183643170835005440 by decide]
  rw [Bool.eq_iff_iff]; simp; omega
theorem le_tg {x : Nat} (hx : x < 18446744073709551616) (nx : nanB x = false) : (FloatKind.f64.format.order x 14407015207689781248 == some .lt || FloatKind.f64.format.order x 14407015207689781248 == some .eq) = decide (place x ≤ -5183643170835005440) := by
  rw [lt_num hx (by omega) nx (by decide), eq_num hx (by omega) nx (by decide), show place 14407015207689781248 = -5183643170835005440 by decide]
  rw [Bool.eq_iff_iff]; simp; omega
set_option maxHeartbeats 800000 in
/-- narrow's nearest, of a float that is no NaN. -/
theorem n_near_num (x : Nat) (hx : x < 18446744073709551616) (nx : nanB x = false) (w : World) :
    Calls Tryd.prog 22 #[.float .f64 x] w fun e w' => e = .returned (.float .f32 (nrW x)) ∧ w' = w := by
  have h1 := ge_tg hx nx
  have h2 := le_tg hx nx
  have hp : place x = if sgn x then -(rung x : Int) else (rung x : Int) := rfl
  by_cases g1 : 5183643170835005440 ≤ place x
  · rw [decide_eq_true g1] at h1
    have HE : Hid (nrW x = sAt 2139095040) := by
      show _ = _
      have hs : sgn x = false := by cases hs : sgn x; · rfl
                                    · rw [hs] at hp; simp at hp; omega
      rw [hs] at hp; simp at hp
      rw [nrW_great (by omega), hs]; rfl
    clear g1 hp h2
    go_enter Tryd.func22, Tryd.ntmps22
    go_wp2_with (go_at_call 42; refine (n_at_any _ (by omega) (by omega) _).mono ?_; rintro e w' ⟨rfl, rfl⟩)
    go_ret
    exact ⟨end_flt32 HE.out.symm, rfl⟩
  · rw [decide_eq_false g1] at h1
    by_cases g2 : place x ≤ -5183643170835005440
    · rw [decide_eq_true g2] at h2
      have HE : Hid (nrW x = sAt (-2139095040)) := by
        show _ = _
        have hs : sgn x = true := by cases hs : sgn x; · rw [hs] at hp; simp at hp; omega
                                     · rfl
        rw [hs] at hp; simp at hp
        rw [nrW_great (by omega), hs]; rfl
      clear g1 g2 hp
      go_enter Tryd.func22, Tryd.ntmps22
      go_wp2_with (go_at_call 42; refine (n_at_any _ (by omega) (by omega) _).mono ?_; rintro e w' ⟨rfl, rfl⟩)
      go_ret
      exact ⟨end_flt32 HE.out.symm, rfl⟩
    · rw [decide_eq_false g2] at h2
      have hc := nr_conv hx (by cases hs : sgn x <;> rw [hs] at hp <;> simp at hp <;> omega)
      clear g1 g2 hp
      go_enter Tryd.func22, Tryd.ntmps22
      go_wp2
      go_ret
      exact ⟨rfl, rfl⟩
set_option maxHeartbeats 400000 in
theorem n_near_nan (x : Nat) (hx : x < 18446744073709551616) (nx : nanB x = true) (w : World) :
    Calls Tryd.prog 22 #[.float .f64 x] w fun e w' => ∃ n, e = .returned (.float .f32 n) ∧ S.nanB n = true ∧ n < 4294967296 ∧ w' = w.drew := by
  have hc := narrow_nan (P := Tryd.prog) Tryd.underlying22 Tryd.underlying25 hx nx
  have h1 : FloatKind.f64.format.order x 5183643170835005440 = none := ord_nan hx (by omega) (Or.inl nx)
  have h2 : FloatKind.f64.format.order x 14407015207689781248 = none := ord_nan hx (by omega) (Or.inl nx)
  go_enter Tryd.func22, Tryd.ntmps22
  go_wp2
  go_ret
  exact ⟨_, rfl, (nsW_nan x w).1, (nsW_nan x w).2, rfl⟩
set_option maxHeartbeats 1600000 in
theorem n_to_num (x near : Nat) (m : Int) (hx : x < 18446744073709551616) (nx : nanB x = false) (hl : near < 4294967296) (hn : S.nanB near = false)
    (hc : ∀ w, Calls Tryd.prog 22 #[.float .f64 x] w fun e w' => e = .returned (.float .f32 near) ∧ w' = w) (w : World) :
    Calls Tryd.prog 5 #[.float .f64 x, .int .i8 m] w fun e w' => e = .returned (.float .f32 (toW x near (toDn m (sgn x)) (toUp m (sgn x)))) ∧ w' = w := by
  obtain ⟨_, _, h3, h4⟩ := bk_parts hn
  have hgt := gt_num h3 hx h4 nx
  have hlt := lt_num h3 hx h4 nx
  have hcb : ∀ up w, Calls Tryd.prog 22 #[.float .f64 (bk (sCpy (sNext near up) x))] w fun e w' => e = .returned (.float .f32 (sCpy (sNext near up) x)) ∧ w' = w := by
    intro up w
    have g := s_word (sgn x) (S.rung (sNext near up)) (s_nan_le (s_next_ok hn up).1)
    have h := n_near_num (bk (sCpy (sNext near up) x)) (bk_parts (b := sCpy (sNext near up) x) g.2.2.2).2.2.1 (bk_parts (b := sCpy (sNext near up) x) g.2.2.2).2.2.2 w
    rw [nrW_bk (b := sCpy (sNext near up) x) g.2.2.1 g.2.2.2] at h
    exact h
  have hb2 := fun up => n_back_any (sNext near up) (s_next_ok hn up).2 (s_next_ok hn up).1
  have hcp : ∀ up, cpy (bk (sNext near up)) x = bk (sCpy (sNext near up) x) := fun up => cpy_bk (s_next_ok hn up).1
  have hbl := fun up => (bk_parts (s_next_ok hn up).1).2.2.1
  obtain ⟨sx, hs⟩ : ∃ s, sgn x = s := ⟨_, rfl⟩
  rw [hs]
  rcases (show m = 1 ∨ m = 2 ∨ m = 3 ∨ (m ≠ 1 ∧ m ≠ 2 ∧ m ≠ 3) by omega) with rfl | rfl | rfl | ⟨m1, m2, m3⟩
  · rw [show toDn 1 sx = true from rfl, show toUp 1 sx = false from rfl]
    by_cases hp : place x < place (bk near)
    · rw [decide_eq_true hp] at hgt
      have HE : Hid (toW x near true false = sCpy (sNext near false) x) := (show toW x near true false = sCpy (sNext near false) x by unfold toW; simp [hp])
      clear hp hlt
      go_enter Tryd.func5, Tryd.ntmps5
      go_wp2_with (first | (go_at_call_of 22 (Value.float FloatKind.f64 x); refine (hc _).mono ?_; rintro e w' ⟨rfl, rfl⟩) | (go_at_call 22; refine (hcb _ _).mono ?_; rintro e w' ⟨rfl, rfl⟩) | (go_at_call 23; refine (signbit_any _ hx _).mono ?_; rw [hs]; rintro e w' ⟨rfl, rfl⟩) | (go_at_call 25; refine (n_next_num _ _ hl hn _).mono ?_; rintro e w' ⟨rfl, rfl⟩) | (go_at_call_of 9 (Value.float FloatKind.f32 near); refine (n_back_any _ hl hn _).mono ?_; rintro e w' ⟨rfl, rfl⟩) | (go_at_call 9; refine (hb2 _ _).mono ?_; rintro e w' ⟨rfl, rfl⟩) | (go_at_call 24; refine (copysign_any _ _ (hbl _) hx _).mono ?_; rw [hcp]; rintro e w' ⟨rfl, rfl⟩))
      go_ret
      exact ⟨end_flt32 HE.out.symm, rfl⟩
    · rw [decide_eq_false hp] at hgt
      have HE : Hid (toW x near true false = near) := (show toW x near true false = near by unfold toW; simp [hp])
      clear hp hlt
      go_enter Tryd.func5, Tryd.ntmps5
      go_wp2_with (first | (go_at_call_of 22 (Value.float FloatKind.f64 x); refine (hc _).mono ?_; rintro e w' ⟨rfl, rfl⟩) | (go_at_call 22; refine (hcb _ _).mono ?_; rintro e w' ⟨rfl, rfl⟩) | (go_at_call 23; refine (signbit_any _ hx _).mono ?_; rw [hs]; rintro e w' ⟨rfl, rfl⟩) | (go_at_call 25; refine (n_next_num _ _ hl hn _).mono ?_; rintro e w' ⟨rfl, rfl⟩) | (go_at_call_of 9 (Value.float FloatKind.f32 near); refine (n_back_any _ hl hn _).mono ?_; rintro e w' ⟨rfl, rfl⟩) | (go_at_call 9; refine (hb2 _ _).mono ?_; rintro e w' ⟨rfl, rfl⟩) | (go_at_call 24; refine (copysign_any _ _ (hbl _) hx _).mono ?_; rw [hcp]; rintro e w' ⟨rfl, rfl⟩))
      go_ret
      exact ⟨end_flt32 HE.out.symm, rfl⟩
  · rw [show toDn 2 sx = false from rfl, show toUp 2 sx = true from rfl]
    by_cases hp : place (bk near) < place x
    · rw [decide_eq_true hp] at hlt
      have HE : Hid (toW x near false true = sCpy (sNext near true) x) := (show toW x near false true = sCpy (sNext near true) x by unfold toW; simp [hp])
      clear hp hgt
      go_enter Tryd.func5, Tryd.ntmps5
      go_wp2_with (first | (go_at_call_of 22 (Value.float FloatKind.f64 x); refine (hc _).mono ?_; rintro e w' ⟨rfl, rfl⟩) | (go_at_call 22; refine (hcb _ _).mono ?_; rintro e w' ⟨rfl, rfl⟩) | (go_at_call 23; refine (signbit_any _ hx _).mono ?_; rw [hs]; rintro e w' ⟨rfl, rfl⟩) | (go_at_call 25; refine (n_next_num _ _ hl hn _).mono ?_; rintro e w' ⟨rfl, rfl⟩) | (go_at_call_of 9 (Value.float FloatKind.f32 near); refine (n_back_any _ hl hn _).mono ?_; rintro e w' ⟨rfl, rfl⟩) | (go_at_call 9; refine (hb2 _ _).mono ?_; rintro e w' ⟨rfl, rfl⟩) | (go_at_call 24; refine (copysign_any _ _ (hbl _) hx _).mono ?_; rw [hcp]; rintro e w' ⟨rfl, rfl⟩))
      go_ret
      exact ⟨end_flt32 HE.out.symm, rfl⟩
    · rw [decide_eq_false hp] at hlt
      have HE : Hid (toW x near false true = near) := (show toW x near false true = near by unfold toW; simp [hp])
      clear hp hgt
      go_enter Tryd.func5, Tryd.ntmps5
      go_wp2_with (first | (go_at_call_of 22 (Value.float FloatKind.f64 x); refine (hc _).mono ?_; rintro e w' ⟨rfl, rfl⟩) | (go_at_call 22; refine (hcb _ _).mono ?_; rintro e w' ⟨rfl, rfl⟩) | (go_at_call 23; refine (signbit_any _ hx _).mono ?_; rw [hs]; rintro e w' ⟨rfl, rfl⟩) | (go_at_call 25; refine (n_next_num _ _ hl hn _).mono ?_; rintro e w' ⟨rfl, rfl⟩) | (go_at_call_of 9 (Value.float FloatKind.f32 near); refine (n_back_any _ hl hn _).mono ?_; rintro e w' ⟨rfl, rfl⟩) | (go_at_call 9; refine (hb2 _ _).mono ?_; rintro e w' ⟨rfl, rfl⟩) | (go_at_call 24; refine (copysign_any _ _ (hbl _) hx _).mono ?_; rw [hcp]; rintro e w' ⟨rfl, rfl⟩))
      go_ret
      exact ⟨end_flt32 HE.out.symm, rfl⟩
  · cases sx
    · rw [show toDn 3 false = true from rfl, show toUp 3 false = false from rfl]
      by_cases hp : place x < place (bk near)
      · rw [decide_eq_true hp] at hgt
        have HE : Hid (toW x near true false = sCpy (sNext near false) x) := (show toW x near true false = sCpy (sNext near false) x by unfold toW; simp [hp])
        clear hp hlt
        go_enter Tryd.func5, Tryd.ntmps5
        go_wp2_with (first | (go_at_call_of 22 (Value.float FloatKind.f64 x); refine (hc _).mono ?_; rintro e w' ⟨rfl, rfl⟩) | (go_at_call 22; refine (hcb _ _).mono ?_; rintro e w' ⟨rfl, rfl⟩) | (go_at_call 23; refine (signbit_any _ hx _).mono ?_; rw [hs]; rintro e w' ⟨rfl, rfl⟩) | (go_at_call 25; refine (n_next_num _ _ hl hn _).mono ?_; rintro e w' ⟨rfl, rfl⟩) | (go_at_call_of 9 (Value.float FloatKind.f32 near); refine (n_back_any _ hl hn _).mono ?_; rintro e w' ⟨rfl, rfl⟩) | (go_at_call 9; refine (hb2 _ _).mono ?_; rintro e w' ⟨rfl, rfl⟩) | (go_at_call 24; refine (copysign_any _ _ (hbl _) hx _).mono ?_; rw [hcp]; rintro e w' ⟨rfl, rfl⟩))
        go_ret
        exact ⟨end_flt32 HE.out.symm, rfl⟩
      · rw [decide_eq_false hp] at hgt
        have HE : Hid (toW x near true false = near) := (show toW x near true false = near by unfold toW; simp [hp])
        clear hp hlt
        go_enter Tryd.func5, Tryd.ntmps5
        go_wp2_with (first | (go_at_call_of 22 (Value.float FloatKind.f64 x); refine (hc _).mono ?_; rintro e w' ⟨rfl, rfl⟩) | (go_at_call 22; refine (hcb _ _).mono ?_; rintro e w' ⟨rfl, rfl⟩) | (go_at_call 23; refine (signbit_any _ hx _).mono ?_; rw [hs]; rintro e w' ⟨rfl, rfl⟩) | (go_at_call 25; refine (n_next_num _ _ hl hn _).mono ?_; rintro e w' ⟨rfl, rfl⟩) | (go_at_call_of 9 (Value.float FloatKind.f32 near); refine (n_back_any _ hl hn _).mono ?_; rintro e w' ⟨rfl, rfl⟩) | (go_at_call 9; refine (hb2 _ _).mono ?_; rintro e w' ⟨rfl, rfl⟩) | (go_at_call 24; refine (copysign_any _ _ (hbl _) hx _).mono ?_; rw [hcp]; rintro e w' ⟨rfl, rfl⟩))
        go_ret
        exact ⟨end_flt32 HE.out.symm, rfl⟩
    · rw [show toDn 3 true = false from rfl, show toUp 3 true = true from rfl]
      by_cases hp : place (bk near) < place x
      · rw [decide_eq_true hp] at hlt
        have HE : Hid (toW x near false true = sCpy (sNext near true) x) := (show toW x near false true = sCpy (sNext near true) x by unfold toW; simp [hp])
        clear hp hgt
        go_enter Tryd.func5, Tryd.ntmps5
        go_wp2_with (first | (go_at_call_of 22 (Value.float FloatKind.f64 x); refine (hc _).mono ?_; rintro e w' ⟨rfl, rfl⟩) | (go_at_call 22; refine (hcb _ _).mono ?_; rintro e w' ⟨rfl, rfl⟩) | (go_at_call 23; refine (signbit_any _ hx _).mono ?_; rw [hs]; rintro e w' ⟨rfl, rfl⟩) | (go_at_call 25; refine (n_next_num _ _ hl hn _).mono ?_; rintro e w' ⟨rfl, rfl⟩) | (go_at_call_of 9 (Value.float FloatKind.f32 near); refine (n_back_any _ hl hn _).mono ?_; rintro e w' ⟨rfl, rfl⟩) | (go_at_call 9; refine (hb2 _ _).mono ?_; rintro e w' ⟨rfl, rfl⟩) | (go_at_call 24; refine (copysign_any _ _ (hbl _) hx _).mono ?_; rw [hcp]; rintro e w' ⟨rfl, rfl⟩))
        go_ret
        exact ⟨end_flt32 HE.out.symm, rfl⟩
      · rw [decide_eq_false hp] at hlt
        have HE : Hid (toW x near false true = near) := (show toW x near false true = near by unfold toW; simp [hp])
        clear hp hgt
        go_enter Tryd.func5, Tryd.ntmps5
        go_wp2_with (first | (go_at_call_of 22 (Value.float FloatKind.f64 x); refine (hc _).mono ?_; rintro e w' ⟨rfl, rfl⟩) | (go_at_call 22; refine (hcb _ _).mono ?_; rintro e w' ⟨rfl, rfl⟩) | (go_at_call 23; refine (signbit_any _ hx _).mono ?_; rw [hs]; rintro e w' ⟨rfl, rfl⟩) | (go_at_call 25; refine (n_next_num _ _ hl hn _).mono ?_; rintro e w' ⟨rfl, rfl⟩) | (go_at_call_of 9 (Value.float FloatKind.f32 near); refine (n_back_any _ hl hn _).mono ?_; rintro e w' ⟨rfl, rfl⟩) | (go_at_call 9; refine (hb2 _ _).mono ?_; rintro e w' ⟨rfl, rfl⟩) | (go_at_call 24; refine (copysign_any _ _ (hbl _) hx _).mono ?_; rw [hcp]; rintro e w' ⟨rfl, rfl⟩))
        go_ret
        exact ⟨end_flt32 HE.out.symm, rfl⟩
  · have hm1 : (m == 1) = false := by simpa using m1
    have hm2 : (m == 2) = false := by simpa using m2
    have hm3 : (m == 3) = false := by simpa using m3
    have HE : Hid (toW x near (toDn m sx) (toUp m sx) = near) := (show toW x near (toDn m sx) (toUp m sx) = near by unfold toW toDn toUp; simp [hm1, hm2, hm3])
    clear m1 m2 m3
    go_enter Tryd.func5, Tryd.ntmps5
    go_wp2_with (first | (go_at_call_of 22 (Value.float FloatKind.f64 x); refine (hc _).mono ?_; rintro e w' ⟨rfl, rfl⟩) | (go_at_call 22; refine (hcb _ _).mono ?_; rintro e w' ⟨rfl, rfl⟩) | (go_at_call 23; refine (signbit_any _ hx _).mono ?_; rw [hs]; rintro e w' ⟨rfl, rfl⟩) | (go_at_call 25; refine (n_next_num _ _ hl hn _).mono ?_; rintro e w' ⟨rfl, rfl⟩) | (go_at_call_of 9 (Value.float FloatKind.f32 near); refine (n_back_any _ hl hn _).mono ?_; rintro e w' ⟨rfl, rfl⟩) | (go_at_call 9; refine (hb2 _ _).mono ?_; rintro e w' ⟨rfl, rfl⟩) | (go_at_call 24; refine (copysign_any _ _ (hbl _) hx _).mono ?_; rw [hcp]; rintro e w' ⟨rfl, rfl⟩))
    go_ret
    exact ⟨end_flt32 HE.out.symm, rfl⟩
set_option maxHeartbeats 1600000 in
theorem n_to_nan (x : Nat) (m : Int) (hx : x < 18446744073709551616) (nx : nanB x = true) (w : World) :
    Calls Tryd.prog 5 #[.float .f64 x, .int .i8 m] w fun e w' => ∃ n, e = .returned (.float .f32 n) ∧ S.nanB n = true ∧ n < 4294967296 ∧ Below w.heap.size w w' := by
  have ho : ∀ c, c < 18446744073709551616 → FloatKind.f64.format.order c x = none := fun c h => ord_nan h hx (Or.inr nx)
  have hgt : (FloatKind.f64.format.order 0 0 == some .gt) = false := by kernel_rfl
  obtain ⟨sx, hs⟩ : ∃ s, sgn x = s := ⟨_, rfl⟩
  have B0 := below_drew1 w
  rcases (show m = 1 ∨ m = 2 ∨ m = 3 ∨ (m ≠ 1 ∧ m ≠ 2 ∧ m ≠ 3) by omega) with rfl | rfl | rfl | ⟨m1, m2, m3⟩
  case inr.inr.inr =>
    have hm1 : (m == 1) = false := by simpa using m1
    have hm2 : (m == 2) = false := by simpa using m2
    have hm3 : (m == 3) = false := by simpa using m3
    clear m1 m2 m3
    go_enter Tryd.func5, Tryd.ntmps5
    go_wp2_with (first | (go_at_call 22; refine (n_near_nan x hx nx _).mono ?_; rintro e w' ⟨near, rfl, n1, n2, rfl⟩) | (go_at_call 23; refine (signbit_any _ hx _).mono ?_; rw [hs]; rintro e w' ⟨rfl, rfl⟩))
    go_ret
    exact ⟨_, rfl, n1, n2, B0⟩
  all_goals cases sx
  all_goals
    go_enter Tryd.func5, Tryd.ntmps5
    go_wp2_with (first | (go_at_call 22; refine (n_near_nan x hx nx _).mono ?_; rintro e w' ⟨near, rfl, n1, n2, rfl⟩) | (go_at_call 23; refine (signbit_any _ hx _).mono ?_; rw [hs]; rintro e w' ⟨rfl, rfl⟩) | (go_at_call 9; refine (n_back_nan _ n2 n1 _).mono ?_; rintro e w1 ⟨c, rfl, c1, c2, rfl⟩; have hoc := ho c c2))
    go_ret
    exact ⟨_, rfl, n1, n2, B0.drew⟩
theorem n_near_bk {b : Nat} (hb : b < 4294967296) (hn : S.nanB b = false) (w : World) :
    Calls Tryd.prog 22 #[.float .f64 (bk b)] w fun e w' => e = .returned (.float .f32 b) ∧ w' = w := by
  have h := n_near_num (bk b) (bk_parts hn).2.2.1 (bk_parts hn).2.2.2 w
  rw [nrW_bk hb hn] at h
  exact h
end Go.Proofs.YtekejddblgkcgaaDoor
