/- BitsOrder answers true, whatever three floats it is given, where the library's table lies as its initialiser lays it. -/
import Derived.Test.YtgkodomppebijabDoorWc
import Derived.Test.YtgkodomppebijabDoorFo
import Derived.Deep.DeepCutAuto
namespace Go.Proofs.YtgkodomppebijabDoor
open Go.RowKit

theorem zero_lt : (0 : Nat) < 18446744073709551616 := by omega
theorem nan_zero : nanB 0 = false := by decide
theorem place_zero : place 0 = 0 := by decide

set_option maxRecDepth 100000 in
set_option maxHeartbeats 2000000 in
theorem law_order (a b c : Nat) (ha : a < 18446744073709551616) (hb : b < 18446744073709551616) (hc : c < 18446744073709551616) (w : World) (hT : TabW w) :
    Calls Tryd.prog 3 #[.float .f64 a, .float .f64 b, .float .f64 c] w fun e w' => e = .returned (.bool true) ∧ Below w.heap.size w w' := by
  go_enter Tryd.func3, Tryd.ntmps3
  go_upto_region 2 with (first | (go_at_call 4; refine (order_any _ _ (by assumption) (by assumption) _).mono ?_; rintro e w' ⟨rfl, rfl⟩))
  go_cut [72] (fun s wx => s = .bool false ∧ w' = wx)
  case first =>
    have hsm := ordF_same ha hb
    have htr := ordF_trans a b c
    have ht0 := ordF_trans0 a b c
    rcases ord3 a b with ⟨g1, g2, g3, g4⟩ | ⟨g1, g2, g3, g4⟩ | ⟨g1, g2, g3, g4⟩
    · have b1 : (ordF a b == 0) = false := by simp; omega
      have hs : sameB a b = false := by rw [hsm]; simp; omega
      have hne : (ordF a b != -ordF b a) = false := by simp; omega
      by_cases hy : ordF b c ≤ 0
      all_goals
        try have g9 : ordF a c ≤ 0 := htr (by omega) (by omega)
        clear hsm htr ht0
        go_wp2_with (first | (go_at_call 5; refine (same_any _ _ (by assumption) (by assumption) _).mono ?_; rintro e w' ⟨rfl, rfl⟩))
        go_meet
        exact ⟨congrArg Value.bool (by simp; omega), rfl⟩
    · have b1 : (ordF a b == 0) = true := by simp; omega
      have hs : sameB a b = true := by rw [hsm]; simp; omega
      have hne : (ordF a b != -ordF b a) = false := by simp; omega
      by_cases hy : ordF b c ≤ 0
      · have g9 : ordF a c ≤ 0 := htr (by omega) (by omega)
        by_cases hy0 : ordF b c = 0
        · have b2 : (ordF b c == 0) = true := by simp; omega
          have b3 : (ordF a c != 0) = false := by have := ht0 (by omega) (by omega); simp; omega
          clear hsm htr ht0 hy0
          go_wp2_with (first | (go_at_call 5; refine (same_any _ _ (by assumption) (by assumption) _).mono ?_; rintro e w' ⟨rfl, rfl⟩))
          go_meet
          exact ⟨congrArg Value.bool (by simp; omega), rfl⟩
        · have b2 : (ordF b c == 0) = false := by simp; omega
          clear hsm htr ht0 hy0
          go_wp2_with (first | (go_at_call 5; refine (same_any _ _ (by assumption) (by assumption) _).mono ?_; rintro e w' ⟨rfl, rfl⟩))
          go_meet
          exact ⟨congrArg Value.bool (by simp; omega), rfl⟩
      · have b2 : (ordF b c == 0) = false := by simp; omega
        clear hsm htr ht0
        go_wp2_with (first | (go_at_call 5; refine (same_any _ _ (by assumption) (by assumption) _).mono ?_; rintro e w' ⟨rfl, rfl⟩))
        go_meet
        exact ⟨congrArg Value.bool (by simp; omega), rfl⟩
    · have b1 : (ordF a b == 0) = false := by simp; omega
      have hs : sameB a b = false := by rw [hsm]; simp; omega
      have hne : (ordF a b != -ordF b a) = false := by simp; omega
      clear hsm htr ht0
      go_wp2_with (first | (go_at_call 5; refine (same_any _ _ (by assumption) (by assumption) _).mono ?_; rintro e w' ⟨rfl, rfl⟩))
      go_meet
      exact ⟨congrArg Value.bool (by simp; omega), rfl⟩
  case rest =>
    obtain ⟨rfl, rfl⟩ := hcut
    go_upto_region 4 with fail
    go_cut [115] (fun s wx => s = .bool false ∧ w' = wx)
    case first =>
      rcases cls ha hb with ⟨na, nb, h, hab, _⟩ | ⟨na, nb, h, hab, _⟩ | ⟨na, nb, h, hab, _⟩ | ⟨na, nb, h, h0, hab, _⟩ | ⟨na, nb, h, h0, hab, _⟩ | ⟨na, nb, hab, _⟩ | ⟨na, nb, hab, _⟩ | ⟨na, nb, hab, _⟩
      · have oab := ord_num ha hb na nb
        rw [cmp_int, if_pos (by omega)] at oab
        have oba := ord_num hb ha nb na
        rw [cmp_int, if_neg (by omega), if_neg (by omega)] at oba
        have oaa := ord_num ha ha na na
        rw [cmp_int, if_neg (by omega), if_pos (by omega)] at oaa
        have bm : (ordF a b != -1) = false := by simp; omega
        have bz : (ordF a b != 0) = true := by simp; omega
        have bp : (ordF a b != 1) = true := by simp; omega
        clear hab h na nb
        go_wp2_with fail
        all_goals
          go_meet
          exact ⟨rfl, rfl⟩
      · have oab := ord_num ha hb na nb
        rw [cmp_int, if_neg (by omega), if_neg (by omega)] at oab
        have oba := ord_num hb ha nb na
        rw [cmp_int, if_pos (by omega)] at oba
        have oaa := ord_num ha ha na na
        rw [cmp_int, if_neg (by omega), if_pos (by omega)] at oaa
        have bm : (ordF a b != -1) = true := by simp; omega
        have bz : (ordF a b != 0) = true := by simp; omega
        have bp : (ordF a b != 1) = false := by simp; omega
        clear hab h na nb
        go_wp2_with fail
        all_goals
          go_meet
          exact ⟨rfl, rfl⟩
      · have oab := ord_num ha hb na nb
        rw [cmp_int, if_neg (by omega), if_pos (by omega)] at oab
        have oba := ord_num hb ha nb na
        rw [cmp_int, if_neg (by omega), if_pos (by omega)] at oba
        have oaa := ord_num ha ha na na
        rw [cmp_int, if_neg (by omega), if_pos (by omega)] at oaa
        have bm : (ordF a b != -1) = true := by simp; omega
        have bz : (ordF a b != 0) = false := by simp; omega
        have bp : (ordF a b != 1) = true := by simp; omega
        clear hab h na nb
        go_wp2_with fail
        all_goals
          go_meet
          exact ⟨rfl, rfl⟩
      · have hz := place_zero
        have oab := ord_num ha hb na nb
        rw [cmp_int, if_neg (by omega), if_pos (by omega)] at oab
        have oba := ord_num hb ha nb na
        rw [cmp_int, if_neg (by omega), if_pos (by omega)] at oba
        have oaa := ord_num ha ha na na
        rw [cmp_int, if_neg (by omega), if_pos (by omega)] at oaa
        have oa0 := ord_num ha zero_lt na nan_zero
        rw [cmp_int, if_neg (by omega), if_pos (by omega)] at oa0
        have bm : (ordF a b != -1) = false := by simp; omega
        have bz : (ordF a b != 0) = true := by simp; omega
        have bp : (ordF a b != 1) = true := by simp; omega
        clear hab h h0 na nb hz
        go_wp2_with fail
        all_goals
          go_meet
          exact ⟨rfl, rfl⟩
      · have hz := place_zero
        have oab := ord_num ha hb na nb
        rw [cmp_int, if_neg (by omega), if_pos (by omega)] at oab
        have oba := ord_num hb ha nb na
        rw [cmp_int, if_neg (by omega), if_pos (by omega)] at oba
        have oaa := ord_num ha ha na na
        rw [cmp_int, if_neg (by omega), if_pos (by omega)] at oaa
        have oa0 := ord_num ha zero_lt na nan_zero
        rw [cmp_int, if_neg (by omega), if_pos (by omega)] at oa0
        have bm : (ordF a b != -1) = true := by simp; omega
        have bz : (ordF a b != 0) = true := by simp; omega
        have bp : (ordF a b != 1) = false := by simp; omega
        clear hab h h0 na nb hz
        go_wp2_with fail
        all_goals
          go_meet
          exact ⟨rfl, rfl⟩
      · have oab := ord_nan ha hb (Or.inl na)
        have oba := ord_nan hb ha (Or.inl nb)
        have oaa := ord_nan ha ha (Or.inl na)
        have obb := ord_nan hb hb (Or.inl nb)
        have bm : (ordF a b != -1) = true := by simp; omega
        have bz : (ordF a b != 0) = false := by simp; omega
        have bp : (ordF a b != 1) = true := by simp; omega
        clear hab na nb
        go_wp2_with fail
        all_goals
          go_meet
          exact ⟨rfl, rfl⟩
      · have oab := ord_nan ha hb (Or.inl na)
        have oba := ord_nan hb ha (Or.inr na)
        have oaa := ord_nan ha ha (Or.inl na)
        have obb := ord_num hb hb nb nb
        rw [cmp_int, if_neg (by omega), if_pos (by omega)] at obb
        have bm : (ordF a b != -1) = true := by simp; omega
        have bz : (ordF a b != 0) = true := by simp; omega
        have bp : (ordF a b != 1) = false := by simp; omega
        clear hab na nb
        go_wp2_with fail
        all_goals
          go_meet
          exact ⟨rfl, rfl⟩
      · have oab := ord_nan ha hb (Or.inr nb)
        have oba := ord_nan hb ha (Or.inl nb)
        have oaa := ord_num ha ha na na
        rw [cmp_int, if_neg (by omega), if_pos (by omega)] at oaa
        have bm : (ordF a b != -1) = false := by simp; omega
        have bz : (ordF a b != 0) = true := by simp; omega
        have bp : (ordF a b != 1) = true := by simp; omega
        clear hab na nb
        go_wp2_with fail
        all_goals
          go_meet
          exact ⟨rfl, rfl⟩
    case rest =>
      obtain ⟨rfl, rfl⟩ := hcut
      have l1 := (btwB_le ha hb).symm
      have l2 := (btwB_le hb hc).symm
      have l3 := (btwB_le ha hc).symm
      cases e1 : btwB a b
      · have z1 := btwN_no e1
        rw [e1] at l1
        cases e2 : btwB b c <;> cases e3 : btwB a c
        all_goals
          rw [e2] at l2
          rw [e3] at l3
          go_wp2_with (first | (go_at_call 6; refine (between_any _ _ (by assumption) (by assumption) _).mono ?_; rintro e w' ⟨rfl, rfl⟩) | (go_at_call 7; refine (awake_any _ (by assumption)).mono ?_; rintro e w1 ⟨rfl, hb1⟩))
          go_ret
          exact ⟨rfl, hb1⟩
      · rw [e1] at l1
        cases e2 : btwB b c
        · cases e3 : btwB a c
          all_goals
            rw [e2] at l2
            rw [e3] at l3
            go_wp2_with (first | (go_at_call 6; refine (between_any _ _ (by assumption) (by assumption) _).mono ?_; rintro e w' ⟨rfl, rfl⟩) | (go_at_call 7; refine (awake_any _ (by assumption)).mono ?_; rintro e w1 ⟨rfl, hb1⟩))
            go_ret
            exact ⟨rfl, hb1⟩
        · obtain ⟨hs, _, _, hlt⟩ := btw_sum e1 e2
          have hsum : (IntKind.u64.wrap (btwN a b + btwN b c) == btwN a c) = true := by rw [IntKind.wrap_u64, hs]; simp; omega
          clear hs
          cases e3 : btwB a c
          all_goals
            rw [e2] at l2
            rw [e3] at l3
            go_wp2_with (first | (go_at_call 6; refine (between_any _ _ (by assumption) (by assumption) _).mono ?_; rintro e w' ⟨rfl, rfl⟩) | (go_at_call 7; refine (awake_any _ (by assumption)).mono ?_; rintro e w1 ⟨rfl, hb1⟩))
            go_ret
            exact ⟨rfl, hb1⟩
end Go.Proofs.YtgkodomppebijabDoor
