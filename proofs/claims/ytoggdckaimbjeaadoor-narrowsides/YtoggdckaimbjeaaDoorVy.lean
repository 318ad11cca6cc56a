/- NarrowSides, whatever float it is given: the walk, where what is compared is known. -/
import Derived.Test.YtoggdckaimbjeaaDoorVs
import Derived.Test.YtoggdckaimbjeaaDoorSz
import Derived.Deep.DeepCutAuto
import Derived.Deep.LoopGhost
namespace Go.Proofs.YtoggdckaimbjeaaDoor
open Go.RowKit

def four32 (D U N Z : Nat) : Obj := .cells #[.float .f32 D, .float .f32 U, .float .f32 N, .float .f32 Z] 22
theorem bk_sgn {a x : Nat} (hn : S.nanB a = false) (hs : S.sgn a = sgn x) : sgn (bk a) = sgn x := (bk_parts hn).2.1.trans hs
set_option maxRecDepth 100000 in
set_option maxHeartbeats 8000000 in
theorem sides_walk (x D U N Z : Nat) (hx : x < 18446744073709551616) (nx : nanB x = false)
    (lD : D < 4294967296) (lU : U < 4294967296) (lN : N < 4294967296) (lZ : Z < 4294967296)
    (nD : S.nanB D = false) (nU : S.nanB U = false) (nN : S.nanB N = false) (nZ : S.nanB Z = false)
    (sD : S.sgn D = sgn x) (sU : S.sgn U = sgn x) (sN : S.sgn N = sgn x) (sZ : S.sgn Z = sgn x)
    (cD : toS x 1 = D) (cU : toS x 2 = U) (cN : toS x 0 = N) (cZ : toS x 3 = Z)
    (o1 : (FloatKind.f64.format.order (bk D) x == some .lt || FloatKind.f64.format.order (bk D) x == some .eq) = true)
    (o2 : (FloatKind.f64.format.order x (bk U) == some .lt || FloatKind.f64.format.order x (bk U) == some .eq) = true)
    (e px mx zx nd nu la lb ge : Bool) (o4 : (FloatKind.f64.format.order (bk D) (bk U) == some .eq) = e) (o5 : (FloatKind.f64.format.order x (bk D) == some .eq) = e)
    (o6 : e = false → (FloatKind.f32.format.order (sNext D true) U != some .eq) = false)
    (o7 : (FloatKind.f32.format.order N D == some .eq) = nd) (o8 : (FloatKind.f32.format.order N U == some .eq) = nu)
    (q1 : (FloatKind.f64.format.order x 0 == some .gt) = px) (q2 : (FloatKind.f64.format.order x 0 == some .lt) = mx) (q3 : (FloatKind.f64.format.order x 0 == some .eq) = zx)
    (z1 : px = true → (FloatKind.f32.format.order Z D != some .eq) = false) (z2 : mx = true → (FloatKind.f32.format.order Z U != some .eq) = false) (z3 : zx = true → (FloatKind.f32.format.order Z 0 != some .eq) = false)
    (y1 : (FloatKind.f64.format.order (rung (bk D)) 9218868437227405312 == some .eq) = la) (y2 : (FloatKind.f64.format.order (rung (bk U)) 9218868437227405312 == some .eq) = lb)
    (k1 k2 : Nat) (hsub : e = false → la = false → lb = false → floatBits .sub .f64 x (bk D) = some k1 ∧ floatBits .sub .f64 (bk U) x = some k2 ∧ (nd = true → (FloatKind.f64.format.order k1 k2 == some .gt) = false) ∧ (nu = true → (FloatKind.f64.format.order k2 k1 == some .gt) = false))
    (hlast : e = false → (la || lb) = true → (FloatKind.f64.format.order (rung (bk N)) 9218868437227405312 == some .eq) = ge ∧ (FloatKind.f64.format.order (rung x) 5183643170835005440 == some .gt || FloatKind.f64.format.order (rung x) 5183643170835005440 == some .eq) = ge)
    (hc : (e = true ∧ nd = true ∧ ((px = true ∧ mx = false ∧ zx = false) ∨ (px = false ∧ mx = true ∧ zx = false) ∨ (px = false ∧ mx = false ∧ zx = true))) ∨ (e = false ∧ zx = false ∧ px = !mx ∧ nd = !nu ∧ (la && lb) = false))
    (w : World) (_hT : TabW w) :
    Calls Tryd.prog 7 #[.float .f64 x] w fun r w' => r = .returned (.bool true) ∧ Below w.heap.size w w' := by
  have h1 := n_to_all x 1 hx nx
  rw [cD] at h1
  have h2 := n_to_all x 2 hx nx
  rw [cU] at h2
  have h3 := n_to_all x 0 hx nx
  rw [cN] at h3
  have h4 := n_to_all x 3 hx nx
  rw [cZ] at h4
  have o0 : (FloatKind.f64.format.order x x != some .eq) = false := (ord_self x hx).trans nx
  have bD := n_back_any D lD nD
  have bU := n_back_any U lU nU
  have bN := n_back_any N lN nN
  have xD := n_next_num D true lD nD
  have vD := wide_num (P := Tryd.prog) Tryd.underlying22 Tryd.underlying23 lD nD
  have vU := wide_num (P := Tryd.prog) Tryd.underlying22 Tryd.underlying23 lU nU
  have vN := wide_num (P := Tryd.prog) Tryd.underlying22 Tryd.underlying23 lN nN
  have vZ := wide_num (P := Tryd.prog) Tryd.underlying22 Tryd.underlying23 lZ nZ
  have gx := signbit_any x hx
  have gD := signbit_any (bk D) (bk_parts nD).2.2.1
  have gU := signbit_any (bk U) (bk_parts nU).2.2.1
  have gN := signbit_any (bk N) (bk_parts nN).2.2.1
  have gZ := signbit_any (bk Z) (bk_parts nZ).2.2.1
  rw [bk_sgn nD sD] at gD
  rw [bk_sgn nU sU] at gU
  rw [bk_sgn nN sN] at gN
  rw [bk_sgn nZ sZ] at gZ
  have aD := abs_any (bk D) (bk_parts nD).2.2.1
  have aU := abs_any (bk U) (bk_parts nU).2.2.1
  have aN := abs_any (bk N) (bk_parts nN).2.2.1
  have ax := abs_any x hx
  have mi : ∀ w, Calls Tryd.prog 10 #[.int .i64 1] w fun e w' => e = .returned (.float .f64 9218868437227405312) ∧ w' = w := fun w => minf_any 1 (Or.inl rfl) w
  have o4' : (FloatKind.f64.format.order (bk D) (bk U) != some .eq) = !e := by unfold bne; rw [o4]
  have o7' : (FloatKind.f32.format.order N D != some .eq) = !nd := by unfold bne; rw [o7]
  have o8' : (FloatKind.f32.format.order N U != some .eq) = !nu := by unfold bne; rw [o8]
  have sx : (sgn x != sgn x) = false := by cases sgn x <;> rfl
  obtain ⟨sg, hsg⟩ : ∃ s, sgn x = s := ⟨_, rfl⟩
  rw [hsg] at gx gD gU gN gZ sx
  have hs1 : e = false → la = false → lb = false → ∀ w, (binOp .sub 23 (.float .f64 x) (.float .f64 (bk D))).run Tryd.prog w = .ok (.float .f64 k1) w := fun a b c w => run_float_arith w .sub 23 .f64 _ _ _ (hsub a b c).1
  have hs2 : e = false → la = false → lb = false → ∀ w, (binOp .sub 23 (.float .f64 (bk U)) (.float .f64 x)).run Tryd.prog w = .ok (.float .f64 k2) w := fun a b c w => run_float_arith w .sub 23 .f64 _ _ _ (hsub a b c).2.1
  have hs3 : e = false → la = false → lb = false → nd = true → (FloatKind.f64.format.order k1 k2 == some .gt) = false := fun a b c d => (hsub a b c).2.2.1 d
  have hs4 : e = false → la = false → lb = false → nu = true → (FloatKind.f64.format.order k2 k1 == some .gt) = false := fun a b c d => (hsub a b c).2.2.2 d
  have hl1 : e = false → (la || lb) = true → (FloatKind.f64.format.order (rung (bk N)) 9218868437227405312 == some .eq) = ge := fun a b => (hlast a b).1
  have hl2 : e = false → (la || lb) = true → (FloatKind.f64.format.order (rung x) 5183643170835005440 == some .gt || FloatKind.f64.format.order (rung x) 5183643170835005440 == some .eq) = ge := fun a b => (hlast a b).2
  have hcase : (e = true ∧ nd = true ∧ ((px = true ∧ mx = false ∧ zx = false) ∨ (px = false ∧ mx = true ∧ zx = false) ∨ (px = false ∧ mx = false ∧ zx = true)))
      ∨ (e = false ∧ zx = false ∧ ((px = true ∧ mx = false) ∨ (px = false ∧ mx = true)) ∧ ((nd = true ∧ nu = false) ∨ (nd = false ∧ nu = true)) ∧ ((la = true ∧ lb = false) ∨ (la = false ∧ lb = true) ∨ (la = false ∧ lb = false))) := by
    rcases hc with h | ⟨a, b, c, d, f⟩
    · exact Or.inl h
    · refine Or.inr ⟨a, b, ?_, ?_, ?_⟩
      · cases mx <;> simp_all
      · cases nu <;> simp_all
      · cases la <;> cases lb <;> simp_all
  clear hc hsub hlast cD cU cN cZ hsg
  go_enter Tryd.func7, Tryd.ntmps7
  go_upto_region 6 with (first
      | (go_at_call_of 12 (Value.int IntKind.i8 1); refine (h1 _).mono ?_; rintro e w' ⟨rfl, rfl⟩)
      | (go_at_call_of 12 (Value.int IntKind.i8 2); refine (h2 _).mono ?_; rintro e w' ⟨rfl, rfl⟩)
      | (go_at_call_of 12 (Value.int IntKind.i8 0); refine (h3 _).mono ?_; rintro e w' ⟨rfl, rfl⟩)
      | (go_at_call_of 12 (Value.int IntKind.i8 3); refine (h4 _).mono ?_; rintro e w' ⟨rfl, rfl⟩)
      | (go_at_call_of 31 (Value.float FloatKind.f32 D); refine (bD _).mono ?_; rintro e w' ⟨rfl, rfl⟩)
      | (go_at_call_of 31 (Value.float FloatKind.f32 U); refine (bU _).mono ?_; rintro e w' ⟨rfl, rfl⟩))
  clear h1 h2 h3 h4 bD bU o0
  go_cut [87] (fun s wx => s = .bool false ∧ w' = wx)
  case first =>
    clear hs1 hs2 hs3 hs4 hl1 hl2 z1 z2 z3 q1 q2 q3 y1 y2
    rcases hcase with ⟨rfl, rfl, _⟩ | ⟨rfl, _, _, ⟨rfl, rfl⟩ | ⟨rfl, rfl⟩, _⟩
    all_goals
      simp only [Bool.not_true, Bool.not_false, forall_const] at o4' o7' o8' o6
      go_wp2_with (go_at_call 14; refine (xD _).mono ?_; rintro e w' ⟨rfl, rfl⟩)
      go_meet
      exact ⟨rfl, rfl⟩
  case rest =>
    obtain ⟨rfl, rfl⟩ := hcut
    go_upto_region 8 with fail
    go_cut [111] (fun s wx => s = .bool false ∧ w' = wx)
    case first =>
      clear hs1 hs2 hs3 hs4 hl1 hl2 o6 y1 y2
      have hz : (px = true ∧ mx = false ∧ zx = false) ∨ (px = false ∧ mx = true ∧ zx = false) ∨ (px = false ∧ mx = false ∧ zx = true) := by
        rcases hcase with ⟨_, _, h⟩ | ⟨_, h1, ⟨h2, h3⟩ | ⟨h2, h3⟩, _⟩
        · exact h
        · exact Or.inl ⟨h2, h3, h1⟩
        · exact Or.inr (Or.inl ⟨h2, h3, h1⟩)
      clear hcase
      rcases hz with ⟨rfl, rfl, rfl⟩ | ⟨rfl, rfl, rfl⟩ | ⟨rfl, rfl, rfl⟩
      · have z1 := z1 rfl
        clear z2 z3
        go_wp2_with fail
        go_meet
        exact ⟨rfl, rfl⟩
      · have z2 := z2 rfl
        clear z1 z3
        go_wp2_with fail
        go_meet
        exact ⟨rfl, rfl⟩
      · have z3 := z3 rfl
        clear z1 z2
        go_wp2_with fail
        go_meet
        exact ⟨rfl, rfl⟩
    case rest =>
      obtain ⟨rfl, rfl⟩ := hcut
      clear z1 z2 z3 q1 q2 q3 o6 o1 o2 o5 xD
      go_wp2
      go_loopg [10, 118] 4 (fun g _ c wr => ∃ k : Nat, k ≤ 4 ∧ g = 4 - k ∧ c = .int .i64 k ∧ w'.alloc (four32 D U N Z) = wr)
      case atStart => exact ⟨0, by omega, rfl, rfl, rfl⟩
      case round =>
        obtain ⟨k, hk, hg, rfl, rfl⟩ := hrel
        have HG : Hid (gk = 4 - k) := hg
        clear hg
        rcases (show k = 0 ∨ k = 1 ∨ k = 2 ∨ k = 3 ∨ k = 4 by omega) with rfl | rfl | rfl | rfl | rfl
        · have c0 : (w'.alloc (four32 D U N Z)).cell? ⟨w'.heap.size, 0, none⟩ = some (.float .f32 D) := by simp [four32, go_sem]
          cases hq : (FloatKind.f32.format.order D 0 == some .eq)
          · go_wp2
            go_roundg 3
            case measure => rw [HG.out]; omega
            case rel => exact ⟨1, by omega, rfl, rfl, rfl⟩
          · go_wp2_with (first
              | (go_at_call_of 34 (Value.float FloatKind.f64 x); refine (gx _).mono ?_; rintro e w' ⟨rfl, rfl⟩)
              | (go_at_call 34; refine (gD _).mono ?_; rintro e w' ⟨rfl, rfl⟩))
            go_roundg 3
            case measure => rw [HG.out]; omega
            case rel => exact ⟨1, by omega, rfl, rfl, rfl⟩
        · have c0 : (w'.alloc (four32 D U N Z)).cell? ⟨w'.heap.size, 1, none⟩ = some (.float .f32 U) := by simp [four32, go_sem]
          cases hq : (FloatKind.f32.format.order U 0 == some .eq)
          · go_wp2
            go_roundg 2
            case measure => rw [HG.out]; omega
            case rel => exact ⟨2, by omega, rfl, rfl, rfl⟩
          · go_wp2_with (first
              | (go_at_call_of 34 (Value.float FloatKind.f64 x); refine (gx _).mono ?_; rintro e w' ⟨rfl, rfl⟩)
              | (go_at_call 34; refine (gU _).mono ?_; rintro e w' ⟨rfl, rfl⟩))
            go_roundg 2
            case measure => rw [HG.out]; omega
            case rel => exact ⟨2, by omega, rfl, rfl, rfl⟩
        · have c0 : (w'.alloc (four32 D U N Z)).cell? ⟨w'.heap.size, 2, none⟩ = some (.float .f32 N) := by simp [four32, go_sem]
          cases hq : (FloatKind.f32.format.order N 0 == some .eq)
          · go_wp2
            go_roundg 1
            case measure => rw [HG.out]; omega
            case rel => exact ⟨3, by omega, rfl, rfl, rfl⟩
          · go_wp2_with (first
              | (go_at_call_of 34 (Value.float FloatKind.f64 x); refine (gx _).mono ?_; rintro e w' ⟨rfl, rfl⟩)
              | (go_at_call 34; refine (gN _).mono ?_; rintro e w' ⟨rfl, rfl⟩))
            go_roundg 1
            case measure => rw [HG.out]; omega
            case rel => exact ⟨3, by omega, rfl, rfl, rfl⟩
        · have c0 : (w'.alloc (four32 D U N Z)).cell? ⟨w'.heap.size, 3, none⟩ = some (.float .f32 Z) := by simp [four32, go_sem]
          cases hq : (FloatKind.f32.format.order Z 0 == some .eq)
          · go_wp2
            go_roundg 0
            case measure => rw [HG.out]; omega
            case rel => exact ⟨4, by omega, rfl, rfl, rfl⟩
          · go_wp2_with (first
              | (go_at_call_of 34 (Value.float FloatKind.f64 x); refine (gx _).mono ?_; rintro e w' ⟨rfl, rfl⟩)
              | (go_at_call 34; refine (gZ _).mono ?_; rintro e w' ⟨rfl, rfl⟩))
            go_roundg 0
            case measure => rw [HG.out]; omega
            case rel => exact ⟨4, by omega, rfl, rfl, rfl⟩
        · have hz : (e = true ∧ ((la = true ∧ lb = true) ∨ (la = true ∧ lb = false) ∨ (la = false ∧ lb = true) ∨ (la = false ∧ lb = false))) ∨ (e = false ∧ ((nd = true ∧ nu = false) ∨ (nd = false ∧ nu = true)) ∧ ((la = true ∧ lb = false) ∨ (la = false ∧ lb = true) ∨ (la = false ∧ lb = false))) := by
            rcases hcase with ⟨h1, _, _⟩ | ⟨h1, _, _, h2, h3⟩
            · refine Or.inl ⟨h1, ?_⟩
              cases la <;> cases lb <;> simp
            · exact Or.inr ⟨h1, h2, h3⟩
          clear hcase
          rcases hz with ⟨rfl, ⟨rfl, rfl⟩ | ⟨rfl, rfl⟩ | ⟨rfl, rfl⟩ | ⟨rfl, rfl⟩⟩ | ⟨rfl, ⟨rfl, rfl⟩ | ⟨rfl, rfl⟩, ⟨rfl, rfl⟩ | ⟨rfl, rfl⟩ | ⟨rfl, rfl⟩⟩
          all_goals as_aux_lemma =>
            (first | (have hs1 := hs1 rfl rfl rfl; have hs2 := hs2 rfl rfl rfl) | skip)
            (first | (have hs3 := hs3 rfl rfl rfl rfl) | skip)
            (first | (have hs4 := hs4 rfl rfl rfl rfl) | skip)
            (first | (have hl1 := hl1 rfl rfl; have hl2 := hl2 rfl rfl) | skip)
            simp only [Bool.not_true, Bool.not_false] at o4'
            go_wp2_with (first
              | (go_at_call_of 35 (Value.float FloatKind.f64 (bk D)); refine (aD _).mono ?_; rintro e w' ⟨rfl, rfl⟩)
              | (go_at_call_of 35 (Value.float FloatKind.f64 (bk U)); refine (aU _).mono ?_; rintro e w' ⟨rfl, rfl⟩)
              | (go_at_call_of 35 (Value.float FloatKind.f64 (bk N)); refine (aN _).mono ?_; rintro e w' ⟨rfl, rfl⟩)
              | (go_at_call_of 35 (Value.float FloatKind.f64 x); refine (ax _).mono ?_; rintro e w' ⟨rfl, rfl⟩)
              | (go_at_call 10; refine (mi _).mono ?_; rintro e w' ⟨rfl, rfl⟩)
              | (go_at_call 31; refine (bN _).mono ?_; rintro e w' ⟨rfl, rfl⟩)
              | (go_at_call 25; refine (n_awake _).mono ?_; rintro e w' ⟨rfl, rfl⟩))
            go_ret
            exact ⟨rfl, (Below.refl _ _).alloc (Nat.le_refl _) _⟩
end Go.Proofs.YtoggdckaimbjeaaDoor
