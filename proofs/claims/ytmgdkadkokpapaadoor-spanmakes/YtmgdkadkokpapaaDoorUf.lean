/- What span's Of, the document's finite, Right, Make, Of, and the law's told answer. -/
import Derived.Test.YtmgdkadkokpapaaDoorUe
import Derived.Test.YtmgdkadkokpapaaDoorWj
namespace Go.Proofs.YtmgdkadkokpapaaDoor
open Go.RowKit

set_option maxHeartbeats 400000 in
theorem rfin5_any (a : Nat) (ha : a < 18446744073709551616) (w : World) :
    Calls Tryd.prog 30 #[.float .f64 a] w fun e w' => e = .returned (.bool (finB a)) ∧ Below w.heap.size w w' := by
  cases hf : finB a
  · have hm := run_nan (P := Tryd.prog) .sub (Or.inl rfl) 22 a a (sub_inf ha hf)
    obtain ⟨h1, h2⟩ := nanW_nan a a w
    have ho : (FloatKind.f64.format.order (nanW a a w) 0 == some .eq) = false := by rw [ord_nan h2 (by omega) (Or.inl h1)]; rfl
    go_enter Tryd.func30, Tryd.ntmps30
    go_wp2
    go_ret
    exact ⟨rfl, (Below.refl _ _).drew⟩
  · have hm := fun w => run_float_arith (P := Tryd.prog) w .sub 22 .f64 _ _ _ (sub_self ha hf)
    have ho : (FloatKind.f64.format.order 0 0 == some .eq) = true := by kernel_rfl
    go_enter Tryd.func30, Tryd.ntmps30
    go_wp2
    go_ret
    exact ⟨end_bool ho, Below.refl _ _⟩
theorem leF_num {a b : Nat} (ha : a < 18446744073709551616) (hb : b < 18446744073709551616) (na : nanB a = false) (nb : nanB b = false) : leF a b = decide (place a ≤ place b) := by
  unfold leF
  rw [lt_num ha hb na nb, eq_num ha hb na nb, Bool.eq_iff_iff]; simp; omega
theorem geF_num {a b : Nat} (ha : a < 18446744073709551616) (hb : b < 18446744073709551616) (na : nanB a = false) (nb : nanB b = false) : geF a b = decide (place b ≤ place a) := by
  unfold geF
  rw [gt_num ha hb na nb, eq_num ha hb na nb, Bool.eq_iff_iff]; simp; omega
theorem leF_nan {a b : Nat} (ha : a < 18446744073709551616) (hb : b < 18446744073709551616) (h : nanB a = true ∨ nanB b = true) : leF a b = false := by
  unfold leF; rw [ord_nan ha hb h]; rfl
/-- A right span, as the document says it. -/
theorem sRt_doc {l h : Nat} (hl : l < 18446744073709551616) (hh : h < 18446744073709551616) (nl : nanB l = false) (nh : nanB h = false) :
    sRt l h = (!decide (place h < place l) && ((finB l || decide (place l < 0)) && (finB h || decide (0 < place h)))) := by
  unfold sRt
  rw [leF_num hl hh nl nh, leF_num hl (by omega) nl (by decide), geF_num hh (by omega) nh (by decide), show place 9218868437227405311 = 9218868437227405311 by decide, show place 18442240474082181119 = -9218868437227405311 by decide]
  have rl : rung l ≤ 9218868437227405312 := by unfold nanB at nl; simpa using nl
  have rh : rung h ≤ 9218868437227405312 := by unfold nanB at nh; simpa using nh
  unfold place finB
  rw [Bool.eq_iff_iff]
  cases sgn l <;> cases sgn h <;> simp <;> omega
theorem sRt_nan {l h : Nat} (hl : l < 18446744073709551616) (hh : h < 18446744073709551616) (hn : nanB l = true ∨ nanB h = true) : sRt l h = false := by
  unfold sRt; rw [leF_nan hl hh hn]; rfl
set_option maxHeartbeats 1600000 in
theorem rright_any (l h : Nat) (hl : l < 18446744073709551616) (hh : h < 18446744073709551616) (w : World) :
    Calls Tryd.prog 12 #[spV l h] w fun e w' => e = .returned (.bool (sRt l h)) ∧ Below w.heap.size w w' := by
  have o1 := ord_self l hl
  have o2 := ord_self h hh
  have fl := rfin5_any l hl
  have fh := rfin5_any h hh
  have hend : ∀ o1, Below w.heap.size w (w.alloc o1) := fun o1 => (Below.refl _ _).alloc (Nat.le_refl _) o1
  cases nl : nanB l <;> rw [nl] at o1
  · cases nh : nanB h <;> rw [nh] at o2
    · have HE : Hid (sRt l h = (!decide (place h < place l) && ((finB l || decide (place l < 0)) && (finB h || decide (0 < place h))))) := sRt_doc hl hh nl nh
      have o3 := gt_num hl hh nl nh
      have o4 := zero_lt hl
      have o5 := zero_gt hh
      rw [nl] at o4
      rw [nh] at o5
      simp only [Bool.not_false, Bool.true_and] at o4 o5
      cases q1 : decide (place h < place l) <;> rw [q1] at o3
      · cases q2 : finB l <;> rw [q2] at fl <;> cases q3 : decide (place l < 0) <;> rw [q3] at o4 <;> cases q4 : finB h <;> rw [q4] at fh <;> cases q5 : decide (0 < place h) <;> rw [q5] at o5 <;>
          (go_enter Tryd.func12, Tryd.ntmps12
           go_wp2_with (first
             | (go_at_call_of 30 (Value.float FloatKind.f64 l); refine (fl _).mono ?_; rintro e w1 ⟨rfl, b1⟩; have A1 := (Bx.new _ _ _ _).below b1; obtain ⟨a0, a1, _⟩ := A1; have A1 := (Bx.new _ _ _ _).below b1; have bz := old1 b1)
             | (go_at_call_of 30 (Value.float FloatKind.f64 h); refine (fh _).mono ?_; rintro e w2 ⟨rfl, b2⟩; obtain ⟨d0, d1, _⟩ := A1.below b2; have bz := bz.trans (b2.mono bz.size)))
           go_ret
           exact ⟨ep_bool (by rw [HE.out, q1, q2, q3, q4, q5]; rfl), bz⟩)
      · go_enter Tryd.func12, Tryd.ntmps12
        go_wp2
        go_ret
        exact ⟨ep_bool (by rw [HE.out, q1]; rfl), hend _⟩
    · have HE : Hid (sRt l h = false) := sRt_nan hl hh (Or.inr nh)
      go_enter Tryd.func12, Tryd.ntmps12
      go_wp2
      go_ret
      exact ⟨ep_bool HE.out.symm, hend _⟩
  · have HE : Hid (sRt l h = false) := sRt_nan hl hh (Or.inl nl)
    go_enter Tryd.func12, Tryd.ntmps12
    go_wp2
    go_ret
    exact ⟨ep_bool HE.out.symm, hend _⟩
set_option maxHeartbeats 800000 in
theorem rmake_any (l u : Nat) (hl : l < 18446744073709551616) (hu : u < 18446744073709551616) (w : World) :
    Calls Tryd.prog 7 #[.float .f64 l, .float .f64 u] w fun e w' => e = .returned (.tuple #[if nanB l || nanB u then spV 0 0 else if sRt l u then spV l u else spV 0 0, .int .i64 (if nanB l || nanB u then 5 else if sRt l u then 0 else 2)]) ∧ Below w.heap.size w w' := by
  have o1 := ord_self l hl
  have o2 := ord_self u hu
  have hb := fun w => rright_any l u hl hu w
  have hst := run_storef Tryd.prog
  have ha1 : ∀ o, Below w.heap.size w (w.alloc o) := fun o => (Below.refl _ _).alloc (Nat.le_refl _) _
  cases na : nanB l <;> rw [na] at o1
  · cases nb : nanB u <;> rw [nb] at o2
    · cases hr : sRt l u <;> rw [hr] at hb
      · go_enter Tryd.func7, Tryd.ntmps7
        go_wp2_with (go_at_call 12; refine (hb _).mono ?_; rintro e w1 ⟨rfl, b1⟩; obtain ⟨c0, c1, f0, f1, _⟩ := ((Bx.new _ _ _ _).alloc _).below b1; obtain ⟨d0, d1, _⟩ := (Bx.new1 _ _ _ _ _).below b1)
        exact bodyPost_ret (v := .tuple #[spV 0 0, .int .i64 2]) (by simp [results, Tryd.results7, go_sem, c0, c1]) rfl ⟨rfl, set2 (old2 b1) (Nat.le_refl _) _ _⟩
      · go_enter Tryd.func7, Tryd.ntmps7
        go_wp2_with (go_at_call 12; refine (hb _).mono ?_; rintro e w1 ⟨rfl, b1⟩; obtain ⟨c0, c1, f0, f1, _⟩ := ((Bx.new _ _ _ _).alloc _).below b1; obtain ⟨d0, d1, _⟩ := (Bx.new1 _ _ _ _ _).below b1)
        exact bodyPost_ret (v := .tuple #[spV l u, .int .i64 0]) (by simp [results, Tryd.results7, go_sem, c0, c1]) rfl ⟨rfl, set2 (old2 b1) (Nat.le_refl _) _ _⟩
    · go_enter Tryd.func7, Tryd.ntmps7
      go_wp2
      exact bodyPost_ret (v := .tuple #[spV 0 0, .int .i64 5]) (by simp [results, Tryd.results7, go_sem]) rfl ⟨rfl, ha1 _⟩
  · go_enter Tryd.func7, Tryd.ntmps7
    go_wp2
    exact bodyPost_ret (v := .tuple #[spV 0 0, .int .i64 5]) (by simp [results, Tryd.results7, go_sem]) rfl ⟨rfl, ha1 _⟩
set_option maxHeartbeats 800000 in
theorem sof_any (x : Nat) (hx : x < 18446744073709551616) (w : World) :
    Calls Tryd.prog 8 #[.float .f64 x] w fun e w' => e = .returned (.tuple #[if finB x then spV x x else spV 0 0, .int .i64 (if finB x then 0 else 5)]) ∧ Below w.heap.size w w' := by
  have cf := sfin_any x hx
  have hst := run_storef Tryd.prog
  have ha1 : ∀ o, Below w.heap.size w (w.alloc o) := fun o => (Below.refl _ _).alloc (Nat.le_refl _) _
  cases hf : finB x <;> rw [hf] at cf
  · go_enter Tryd.func8, Tryd.ntmps8
    go_wp2_with (go_at_call 29; refine (cf _).mono ?_; rintro e w' ⟨rfl, rfl⟩)
    exact bodyPost_ret (v := .tuple #[spV 0 0, .int .i64 5]) (by simp [results, Tryd.results8, go_sem]) rfl ⟨rfl, ha1 _⟩
  · go_enter Tryd.func8, Tryd.ntmps8
    go_wp2_with (go_at_call 29; refine (cf _).mono ?_; rintro e w' ⟨rfl, rfl⟩)
    exact bodyPost_ret (v := .tuple #[spV x x, .int .i64 0]) (by simp [results, Tryd.results8, go_sem]) rfl ⟨rfl, ha1 _⟩
set_option maxHeartbeats 800000 in
theorem rof_any (x : Nat) (hx : x < 18446744073709551616) (w : World) :
    Calls Tryd.prog 9 #[.float .f64 x] w fun e w' => e = .returned (.tuple #[if finB x then spV x x else spV 0 0, .int .i64 (if finB x then 0 else 5)]) ∧ Below w.heap.size w w' := by
  have cf := rfin5_any x hx
  have hst := run_storef Tryd.prog
  cases hf : finB x <;> rw [hf] at cf
  · go_enter Tryd.func9, Tryd.ntmps9
    go_wp2_with (go_at_call 30; refine (cf _).mono ?_; rintro e w1 ⟨rfl, b1⟩; obtain ⟨c0, c1, f0, f1, _⟩ := (Bx.new _ _ _ _).below b1)
    exact bodyPost_ret (v := .tuple #[spV 0 0, .int .i64 5]) (by simp [results, Tryd.results9, go_sem, c0, c1]) rfl ⟨rfl, set2 (old1 b1) (Nat.le_refl _) _ _⟩
  · go_enter Tryd.func9, Tryd.ntmps9
    go_wp2_with (go_at_call 30; refine (cf _).mono ?_; rintro e w1 ⟨rfl, b1⟩; obtain ⟨c0, c1, f0, f1, _⟩ := (Bx.new _ _ _ _).below b1)
    exact bodyPost_ret (v := .tuple #[spV x x, .int .i64 0]) (by simp [results, Tryd.results9, go_sem, c0, c1]) rfl ⟨rfl, set2 (old1 b1) (Nat.le_refl _) _ _⟩
theorem samef_self (a : Nat) (ha : a < 18446744073709551616) (w : World) : Calls Tryd.prog 51 #[.float .f64 a, .float .f64 a] w fun e w' => e = .returned (.bool true) ∧ w' = w := by
  have h := samef_any a a ha ha w
  rw [show sameB a a = true by unfold sameB; cases nanB a <;> simp] at h
  exact h
set_option maxHeartbeats 800000 in
theorem ssame_self (a b : Nat) (ha : a < 18446744073709551616) (hb : b < 18446744073709551616) (w : World) :
    Calls Tryd.prog 31 #[spV a b, spV a b] w fun e w' => e = .returned (.bool true) ∧ Below w.heap.size w w' := by
  go_enter Tryd.func31, Tryd.ntmps31
  go_wp2_with (go_at_call 51; refine (samef_self _ (by assumption) _).mono ?_; rintro e w' ⟨rfl, rfl⟩)
  go_ret
  exact ⟨rfl, ((Below.refl _ _).alloc (Nat.le_refl _) _).alloc (by simp) _⟩
set_option maxHeartbeats 800000 in
theorem told_self (a b : Nat) (n : Int) (ha : a < 18446744073709551616) (hb : b < 18446744073709551616) (w : World) :
    Calls Tryd.prog 10 #[spV a b, .int .i64 n, spV a b, .int .i64 n] w fun e w' => e = .returned (.bool true) ∧ Below w.heap.size w w' := by
  go_enter Tryd.func10, Tryd.ntmps10
  go_wp2_with (go_at_call 31; refine (ssame_self _ _ ha hb _).mono ?_; rintro e w1 ⟨rfl, b1⟩)
  go_ret
  exact ⟨rfl, old2 b1⟩
end Go.Proofs.YtmgdkadkokpapaaDoor
