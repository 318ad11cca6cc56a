/- What roundSize answers: the walk. -/
import Derived.Test.YtokfkooffbihcaaDoorEf
namespace Go.Proofs.YtokfkooffbihcaaDoor
open Go.RowKit

set_option maxHeartbeats 1000000 in
theorem roundSize_walk (neg : Bool) (xs : List Nat) (ex : Int) (ao : Option Addr) (cap : Nat) (m la dr : Int) (kv : Nat) (g : Bool) (kp : Nat) (c r : Nat) (w : World) (hr : LRow w ao xs) (hL : Lm xs) (hn : xs.length ≤ 256) (h1 : -65536 ≤ ex) (h2 : ex ≤ 65536) (hm : m = 0 ∨ m = 2 ∨ m = 3)
    (hg : ¬ 1024 < (bl (vl xs) : Int) + ex) (hla : (bl (vl xs) : Int) + ex - 53 = la ∧ -1074 ≤ la ∨ (bl (vl xs) : Int) + ex - 53 < -1074 ∧ la = -1074) (hdr : la - ex = dr) (hkv : win (vl xs) dr = kv) (hkl : kv < 9007199254740992) (hgu : 0 < dr → rUp (vl xs) dr m = g) (hkp : kp = if 0 < dr ∧ g = true then kv + 1 else kv)
    (hl1 : -1074 ≤ la) (hl2 : la ≤ 971) (ho : floatOfInt .f64 (kp : Int) = c) (hmul : floatBits .mul .f64 c (pw la) = some r) :
    Calls Tryd.prog 34 #[.agg #[.bool neg, .slice ao xs.length cap, .int .i64 ex], .int .i8 m] w fun e w' => e = .returned (.float .f64 r) ∧ Below w.heap.size w w' := by
  have htop := fun o => top_any ⟨neg, xs, ex⟩ ao cap (w.alloc o) (hr.alloc o) hL (by simp only; omega) (by simp only; omega) (by simp only; omega)
  simp only at htop
  have hmf := fun w' => run_float_arith (P := Tryd.prog) w' .mul 38 .f64 _ _ _ hmul
  have hbl : bl (vl xs) ≤ 64 * 256 := bl_limbs hL hn
  have hj := join_one hl1 hl2
  have hjc := fun w' => join_any false 1 la (by omega) w'
  rw [hj.1, hj.2] at hjc
  have hjc' : ∀ w', Calls Tryd.prog 36 #[.agg #[.bool false, .int .u64 1, .int .i64 la]] w' fun r w'' => r = .returned (.tuple #[.float .f64 (pw la), .bool true]) ∧ Below w'.heap.size w' w'' := hjc
  have hwin := fun w' hr' => window_any xs ao cap dr w' hr' hL (by omega) (by omega)
  rw [hkv] at hwin
  have HM : Hid (m = 0 ∨ m = 2 ∨ m = 3) := hm
  clear hm hkv hj hjc hmul
  by_cases hd : 0 < dr
  · have hgu' := hgu hd
    have hcall := fun w' hr' => goesUp_any xs ao cap dr m w' hr' hL (by omega) (by omega) HM.out
    rw [hgu'] at hcall
    clear hgu hgu'
    cases g
    · have hkk : kp = kv := by rw [hkp, if_neg (by simp)]
      subst hkk
      clear hkp
      rcases hla with ⟨ha, hb⟩ | ⟨ha, hb⟩
      · go_enter Tryd.func34, Tryd.ntmps34
        go_wp2_with (first | (go_at_call 42; refine (htop _).mono ?_; rintro e w1 ⟨rfl, hb1⟩; obtain ⟨⟨c0, c1, c2⟩, ho1⟩ := one_box hb1) | (go_at_call 44; refine (hwin _ (hr.below ho1)).mono ?_; rintro e w' ⟨rfl, hww⟩; subst hww) | (go_at_call 52; refine (hcall _ (hr.below ho1)).mono ?_; rintro e w' ⟨rfl, hww⟩; subst hww) | (go_at_call 36; refine (hjc' _).mono ?_; rintro e w2 ⟨rfl, hb2⟩))
        go_ret
        exact ⟨rfl, ho1.trans (hb2.mono ho1.size)⟩
      · subst hb
        go_enter Tryd.func34, Tryd.ntmps34
        go_wp2_with (first | (go_at_call 42; refine (htop _).mono ?_; rintro e w1 ⟨rfl, hb1⟩; obtain ⟨⟨c0, c1, c2⟩, ho1⟩ := one_box hb1) | (go_at_call 44; refine (hwin _ (hr.below ho1)).mono ?_; rintro e w' ⟨rfl, hww⟩; subst hww) | (go_at_call 52; refine (hcall _ (hr.below ho1)).mono ?_; rintro e w' ⟨rfl, hww⟩; subst hww) | (go_at_call 36; refine (hjc' _).mono ?_; rintro e w2 ⟨rfl, hb2⟩))
        go_ret
        exact ⟨rfl, ho1.trans (hb2.mono ho1.size)⟩
    · have hkk : kp = kv + 1 := by rw [hkp, if_pos ⟨hd, rfl⟩]
      subst hkk
      rw [Int.natCast_add] at ho
      have ho' : floatOfInt .f64 ((kv : Int) + 1) = c := ho
      clear hkp ho
      rcases hla with ⟨ha, hb⟩ | ⟨ha, hb⟩
      · go_enter Tryd.func34, Tryd.ntmps34
        go_wp2_with (first | (go_at_call 42; refine (htop _).mono ?_; rintro e w1 ⟨rfl, hb1⟩; obtain ⟨⟨c0, c1, c2⟩, ho1⟩ := one_box hb1) | (go_at_call 44; refine (hwin _ (hr.below ho1)).mono ?_; rintro e w' ⟨rfl, hww⟩; subst hww) | (go_at_call 52; refine (hcall _ (hr.below ho1)).mono ?_; rintro e w' ⟨rfl, hww⟩; subst hww) | (go_at_call 36; refine (hjc' _).mono ?_; rintro e w2 ⟨rfl, hb2⟩))
        go_ret
        exact ⟨rfl, ho1.trans (hb2.mono ho1.size)⟩
      · subst hb
        go_enter Tryd.func34, Tryd.ntmps34
        go_wp2_with (first | (go_at_call 42; refine (htop _).mono ?_; rintro e w1 ⟨rfl, hb1⟩; obtain ⟨⟨c0, c1, c2⟩, ho1⟩ := one_box hb1) | (go_at_call 44; refine (hwin _ (hr.below ho1)).mono ?_; rintro e w' ⟨rfl, hww⟩; subst hww) | (go_at_call 52; refine (hcall _ (hr.below ho1)).mono ?_; rintro e w' ⟨rfl, hww⟩; subst hww) | (go_at_call 36; refine (hjc' _).mono ?_; rintro e w2 ⟨rfl, hb2⟩))
        go_ret
        exact ⟨rfl, ho1.trans (hb2.mono ho1.size)⟩
  · have hkk : kp = kv := by rw [hkp, if_neg (by omega)]
    subst hkk
    have hcall := fun w' hr' => goesUp_any xs ao cap 0 m w' hr' hL (by omega) (by omega) HM.out
    clear hkp hgu
    rcases hla with ⟨ha, hb⟩ | ⟨ha, hb⟩
    · go_enter Tryd.func34, Tryd.ntmps34
      go_wp2_with (first | (go_at_call 42; refine (htop _).mono ?_; rintro e w1 ⟨rfl, hb1⟩; obtain ⟨⟨c0, c1, c2⟩, ho1⟩ := one_box hb1) | (go_at_call 44; refine (hwin _ (hr.below ho1)).mono ?_; rintro e w' ⟨rfl, hww⟩; subst hww) | (go_at_call 52; refine (hcall _ (hr.below ho1)).mono ?_; rintro e w' ⟨rfl, hww⟩; subst hww) | (go_at_call 36; refine (hjc' _).mono ?_; rintro e w2 ⟨rfl, hb2⟩))
      go_ret
      exact ⟨rfl, ho1.trans (hb2.mono ho1.size)⟩
    · subst hb
      go_enter Tryd.func34, Tryd.ntmps34
      go_wp2_with (first | (go_at_call 42; refine (htop _).mono ?_; rintro e w1 ⟨rfl, hb1⟩; obtain ⟨⟨c0, c1, c2⟩, ho1⟩ := one_box hb1) | (go_at_call 44; refine (hwin _ (hr.below ho1)).mono ?_; rintro e w' ⟨rfl, hww⟩; subst hww) | (go_at_call 52; refine (hcall _ (hr.below ho1)).mono ?_; rintro e w' ⟨rfl, hww⟩; subst hww) | (go_at_call 36; refine (hjc' _).mono ?_; rintro e w2 ⟨rfl, hb2⟩))
      go_ret
      exact ⟨rfl, ho1.trans (hb2.mono ho1.size)⟩
end Go.Proofs.YtokfkooffbihcaaDoor
