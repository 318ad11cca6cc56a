/- What Of and Int answer. -/
import Derived.Test.YtnclddfljghebaaGreatDoorZl
import Derived.Test.YtnclddfljghebaaGreatDoorDr
import Derived.Test.YtnclddfljghebaaGreatDoorWj
import Derived.Test.YtnclddfljghebaaGreatDoorZp
import Derived.Test.YtnclddfljghebaaGreatDoorDx
namespace Go.Proofs.YtnclddfljghebaaGreatDoor
open Go.RowKit

/-- How a size is rounded. -/
def szm (neg : Bool) (m : Int) : Int := if m = 3 ∨ (m = 1 ∧ neg = false) ∨ (m = 2 ∧ neg = true) then 3 else if m = 1 ∨ m = 2 then 2 else 0
theorem szm_is (neg : Bool) (m : Int) : szm neg m = 0 ∨ szm neg m = 2 ∨ szm neg m = 3 := by unfold szm; (repeat' split) <;> simp

set_option maxHeartbeats 400000 in
theorem sizeMode_any (neg : Bool) (m : Int) (w : World) : Calls Tryz.prog 100 #[.bool neg, .int .i8 m] w fun e w' => e = .returned (.int .i8 (szm neg m)) ∧ w' = w := by
  by_cases h3 : m = 3
  · subst h3
    go_enter Tryz.func100, Tryz.ntmps100
    go_wp2
    go_ret
    exact ⟨rfl, rfl⟩
  · have b3 : (m == 3) = false := beq_eq_false_iff_ne.2 h3
    by_cases h1 : m = 1
    · subst h1
      cases neg
      all_goals
        go_enter Tryz.func100, Tryz.ntmps100
        go_wp2
        go_ret
        exact ⟨rfl, rfl⟩
    · have b1 : (m == 1) = false := beq_eq_false_iff_ne.2 h1
      by_cases h2 : m = 2
      · subst h2
        cases neg
        all_goals
          go_enter Tryz.func100, Tryz.ntmps100
          go_wp2
          go_ret
          exact ⟨rfl, rfl⟩
      · have b2 : (m == 2) = false := beq_eq_false_iff_ne.2 h2
        have HE : Hid (szm neg m = 0) := (show _ = _ by unfold szm; rw [if_neg (by simp [h1, h2, h3]), if_neg (by simp [h1, h2])])
        clear h1 h2 h3
        go_enter Tryz.func100, Tryz.ntmps100
        go_wp2
        go_ret
        exact ⟨retI HE.out.symm, rfl⟩

set_option maxHeartbeats 400000 in
theorem goesUp_any (xs : List Nat) (ao : Option Addr) (cap : Nat) (dr m : Int) (w : World) (hr : LRow w ao xs) (hL : Lm xs) (h1 : -1000000 ≤ dr) (h2 : dr ≤ 1000000) (hm : m = 0 ∨ m = 2 ∨ m = 3) :
    Calls Tryz.prog 126 #[.slice ao xs.length cap, .int .i64 dr, .int .i8 m] w fun e w' => e = .returned (.bool (rUp (vl xs) dr m)) ∧ w' = w := by
  rcases hm with rfl | rfl | rfl
  · have w1 := window_any xs ao cap (dr - 1) w hr hL (by omega) (by omega)
    have w2 := window_any xs ao cap dr w hr hL (by omega) (by omega)
    have l1 := win_lt (vl xs) (dr - 1)
    have l2 := win_lt (vl xs) dr
    have HE : Hid (rUp (vl xs) dr 0 = ((win (vl xs) (dr - 1) % 2 == 1) && (decide (1 < dr) || (win (vl xs) dr % 2 == 1)))) := rfl
    generalize win (vl xs) (dr - 1) = p at *
    generalize win (vl xs) dr = q at *
    have a1 : bits .and .u64 (p : Int) 1 = (p : Int) % 2 := (u64_and1 l1).trans (by omega)
    have a2 : bits .and .u64 (q : Int) 1 = (q : Int) % 2 := (u64_and1 l2).trans (by omega)
    by_cases hp : p % 2 = 1
    · have b1 : ((p : Int) % 2 == 1) = true := by simp; omega
      by_cases hq : q % 2 = 1
      · have b2 : ((q : Int) % 2 == 1) = true := by simp; omega
        have HE2 : Hid (rUp (vl xs) dr 0 = true) := (show _ = _ by rw [HE.out]; simp [hp, hq])
        by_cases hd : 1 < dr
        all_goals
          clear hp hq HE
          go_enter Tryz.func126, Tryz.ntmps126
          go_wp2_with (first | (go_at_call_of 80 (Value.int IntKind.i64 dr); refine w2.mono ?_; rintro e w' ⟨rfl, hww⟩; subst hww) | (go_at_call 80; refine w1.mono ?_; rintro e w' ⟨rfl, hww⟩; subst hww))
          go_ret
          exact ⟨retB HE2.out.symm, rfl⟩
      · have b2 : ((q : Int) % 2 == 1) = false := by simp; omega
        by_cases hd : 1 < dr
        · have HE2 : Hid (rUp (vl xs) dr 0 = true) := (show _ = _ by rw [HE.out]; simp [hp, hd])
          clear hp hq HE
          go_enter Tryz.func126, Tryz.ntmps126
          go_wp2_with (first | (go_at_call_of 80 (Value.int IntKind.i64 dr); refine w2.mono ?_; rintro e w' ⟨rfl, hww⟩; subst hww) | (go_at_call 80; refine w1.mono ?_; rintro e w' ⟨rfl, hww⟩; subst hww))
          go_ret
          exact ⟨retB HE2.out.symm, rfl⟩
        · have HE2 : Hid (rUp (vl xs) dr 0 = false) := (show _ = _ by rw [HE.out]; simp [hq, hd])
          clear hp hq HE
          go_enter Tryz.func126, Tryz.ntmps126
          go_wp2_with (first | (go_at_call_of 80 (Value.int IntKind.i64 dr); refine w2.mono ?_; rintro e w' ⟨rfl, hww⟩; subst hww) | (go_at_call 80; refine w1.mono ?_; rintro e w' ⟨rfl, hww⟩; subst hww))
          go_ret
          exact ⟨retB (by rw [HE2.out]; simp; omega), rfl⟩
    · have b1 : ((p : Int) % 2 == 1) = false := by simp; omega
      have HE2 : Hid (rUp (vl xs) dr 0 = false) := (show _ = _ by rw [HE.out]; simp [hp])
      clear hp HE
      go_enter Tryz.func126, Tryz.ntmps126
      go_wp2_with (first | (go_at_call_of 80 (Value.int IntKind.i64 dr); refine w2.mono ?_; rintro e w' ⟨rfl, hww⟩; subst hww) | (go_at_call 80; refine w1.mono ?_; rintro e w' ⟨rfl, hww⟩; subst hww))
      go_ret
      exact ⟨retB HE2.out.symm, rfl⟩
  · go_enter Tryz.func126, Tryz.ntmps126
    go_wp2_with fail
    go_ret
    exact ⟨rfl, rfl⟩
  · go_enter Tryz.func126, Tryz.ntmps126
    go_wp2_with fail
    go_ret
    exact ⟨rfl, rfl⟩
theorem join_one {last : Int} (h1 : -1074 ≤ last) (h2 : last ≤ 971) : joinF false 1 last = pw last ∧ okP 1 last = true := by
  have l1 : Nat.log2 1 = 0 := by decide
  have e : jR 1 last = pw last := by
    unfold jR jU jM pw
    rw [l1]
    by_cases hc : last < -1022
    · rw [if_neg (by omega), if_neg (by omega), if_pos hc]; omega
    · rw [if_pos (by omega), if_pos (by omega), if_neg hc]; omega
  have hp := (pw_ok h1 (show last ≤ 1023 by omega)).1
  have hk : okP 1 last = true := by unfold okP; rw [if_neg (by omega), e]; simp; omega
  refine ⟨?_, hk⟩
  simp [joinF, valR, hk, e]

theorem inf1_any (w : World) : Calls Tryz.prog 125 #[.int .i64 1] w fun e w' => e = .returned (.float .f64 9218868437227405312) ∧ w' = w := by
  have ff := run_ffrom
  go_enter Tryz.func125, Tryz.ntmps125
  go_wp2
  go_ret
  exact ⟨rfl, rfl⟩

set_option maxHeartbeats 1000000 in
theorem roundSize_great (d : Dy) (ao : Option Addr) (cap : Nat) (m : Int) (w : World) (hr : LRow w ao d.mag) (hL : Lm d.mag) (hn : d.mag.length ≤ 256) (h1 : -65536 ≤ d.exp) (h2 : d.exp ≤ 65536) (hm : m = 0 ∨ m = 2 ∨ m = 3) (hg : 1024 < (bl (vl d.mag) : Int) + d.exp) :
    Calls Tryz.prog 99 #[.agg #[.bool d.neg, .slice ao d.mag.length cap, .int .i64 d.exp], .int .i8 m] w fun e w' => e = .returned (.float .f64 (rSz (vl d.mag) d.exp m)) ∧ Below w.heap.size w w' := by
  have HE : Hid (rSz (vl d.mag) d.exp m = if m = 3 then 9218868437227405311 else 9218868437227405312) := (show _ = _ by unfold rSz; rw [if_pos hg])
  obtain ⟨neg, xs, ex⟩ := d
  simp only at *
  have htop := fun o => top_any ⟨neg, xs, ex⟩ ao cap (w.alloc o) (hr.alloc o) hL (by simp only; omega) (by simp only; omega) (by simp only; omega)
  simp only at htop
  rcases hm with rfl | rfl | rfl
  all_goals
    go_enter Tryz.func99, Tryz.ntmps99
    go_wp2_with (first | (go_at_call 124; refine (htop _).mono ?_; rintro e w1 ⟨rfl, hb1⟩) | (go_at_call 125; refine (inf1_any _).mono ?_; rintro e w' ⟨rfl, hww⟩; subst hww))
    go_ret
    exact ⟨by rw [HE.out]; rfl, ((Below.refl _ _).alloc (Nat.le_refl _) _).trans (hb1.mono (by go_simp))⟩

theorem one_box {w w1 : World} {x0 x1 x2 : Value} {s : TypeId} (hb : Below (w.alloc (.cells #[x0, x1, x2] s)).heap.size (w.alloc (.cells #[x0, x1, x2] s)) w1) :
    (w1.cell? ⟨w.heap.size, 0, none⟩ = some x0 ∧ w1.cell? ⟨w.heap.size, 1, none⟩ = some x1 ∧ w1.cell? ⟨w.heap.size, 2, none⟩ = some x2) ∧ Below w.heap.size w w1 := by
  obtain ⟨hc, hf⟩ := oldc hb
  have l0 : w.heap.size < (w.alloc (.cells #[x0, x1, x2] s)).heap.size := by go_simp
  refine ⟨⟨?_, ?_, ?_⟩, ((Below.refl _ _).alloc (Nat.le_refl _) _).trans (hb.mono (by omega))⟩
  · rw [hc _ _ l0]; go_simp
  · rw [hc _ _ l0]; go_simp
  · rw [hc _ _ l0]; go_simp
end Go.Proofs.YtnclddfljghebaaGreatDoor

namespace Go.Proofs.YtnclddfljghebaaGreatDoor
open Go.RowKit

set_option maxHeartbeats 1000000 in
theorem roundSize_walk (neg : Bool) (xs : List Nat) (ex : Int) (ao : Option Addr) (cap : Nat) (m la dr : Int) (kv : Nat) (g : Bool) (kp : Nat) (c r : Nat) (w : World) (hr : LRow w ao xs) (hL : Lm xs) (hn : xs.length ≤ 256) (h1 : -65536 ≤ ex) (h2 : ex ≤ 65536) (hm : m = 0 ∨ m = 2 ∨ m = 3)
    (hg : ¬ 1024 < (bl (vl xs) : Int) + ex) (hla : (bl (vl xs) : Int) + ex - 53 = la ∧ -1074 ≤ la ∨ (bl (vl xs) : Int) + ex - 53 < -1074 ∧ la = -1074) (hdr : la - ex = dr) (hkv : win (vl xs) dr = kv) (hkl : kv < 9007199254740992) (hgu : 0 < dr → rUp (vl xs) dr m = g) (hkp : kp = if 0 < dr ∧ g = true then kv + 1 else kv)
    (hl1 : -1074 ≤ la) (hl2 : la ≤ 971) (ho : floatOfInt .f64 (kp : Int) = c) (hmul : floatBits .mul .f64 c (pw la) = some r) :
    Calls Tryz.prog 99 #[.agg #[.bool neg, .slice ao xs.length cap, .int .i64 ex], .int .i8 m] w fun e w' => e = .returned (.float .f64 r) ∧ Below w.heap.size w w' := by
  have htop := fun o => top_any ⟨neg, xs, ex⟩ ao cap (w.alloc o) (hr.alloc o) hL (by simp only; omega) (by simp only; omega) (by simp only; omega)
  simp only at htop
  have hmf := fun w' => run_float_arith (P := Tryz.prog) w' .mul 25 .f64 _ _ _ hmul
  have hbl : bl (vl xs) ≤ 64 * 256 := bl_limbs hL hn
  have hj := join_one hl1 hl2
  have hjc := fun w' => join_any false 1 la (by omega) w'
  rw [hj.1, hj.2] at hjc
  have hjc' : ∀ w', Calls Tryz.prog 127 #[.agg #[.bool false, .int .u64 1, .int .i64 la]] w' fun r w'' => r = .returned (.tuple #[.float .f64 (pw la), .bool true]) ∧ Below w'.heap.size w' w'' := hjc
  have hwin := fun w' hr' => window_any xs ao cap dr w' hr' hL (by omega) (by omega)
  rw [hkv] at hwin
  have HM : Hid (m = 0 ∨ m = 2 ∨ m = 3) := hm
  clear hm hkv hj hjc hmul
  by_cases hd : 0 < dr
  · have hgu' := hgu hd
    have hcall := fun w' hr' => goesUp_any xs ao cap dr m w' hr' hL (by omega) (by omega) HM.out
    rw [hgu'] at hcall
    clear hgu hgu'
    cases g
    · have hkk : kp = kv := by rw [hkp, if_neg (by simp)]
      subst hkk
      clear hkp
      rcases hla with ⟨ha, hb⟩ | ⟨ha, hb⟩
      · go_enter Tryz.func99, Tryz.ntmps99
        go_wp2_with (first | (go_at_call 124; refine (htop _).mono ?_; rintro e w1 ⟨rfl, hb1⟩; obtain ⟨⟨c0, c1, c2⟩, ho1⟩ := one_box hb1) | (go_at_call 80; refine (hwin _ (hr.below ho1)).mono ?_; rintro e w' ⟨rfl, hww⟩; subst hww) | (go_at_call 126; refine (hcall _ (hr.below ho1)).mono ?_; rintro e w' ⟨rfl, hww⟩; subst hww) | (go_at_call 127; refine (hjc' _).mono ?_; rintro e w2 ⟨rfl, hb2⟩))
        go_ret
        exact ⟨rfl, ho1.trans (hb2.mono ho1.size)⟩
      · subst hb
        go_enter Tryz.func99, Tryz.ntmps99
        go_wp2_with (first | (go_at_call 124; refine (htop _).mono ?_; rintro e w1 ⟨rfl, hb1⟩; obtain ⟨⟨c0, c1, c2⟩, ho1⟩ := one_box hb1) | (go_at_call 80; refine (hwin _ (hr.below ho1)).mono ?_; rintro e w' ⟨rfl, hww⟩; subst hww) | (go_at_call 126; refine (hcall _ (hr.below ho1)).mono ?_; rintro e w' ⟨rfl, hww⟩; subst hww) | (go_at_call 127; refine (hjc' _).mono ?_; rintro e w2 ⟨rfl, hb2⟩))
        go_ret
        exact ⟨rfl, ho1.trans (hb2.mono ho1.size)⟩
    · have hkk : kp = kv + 1 := by rw [hkp, if_pos ⟨hd, rfl⟩]
      subst hkk
      rw [Int.natCast_add] at ho
      have ho' : floatOfInt .f64 ((kv : Int) + 1) = c := ho
      clear hkp ho
      rcases hla with ⟨ha, hb⟩ | ⟨ha, hb⟩
      · go_enter Tryz.func99, Tryz.ntmps99
        go_wp2_with (first | (go_at_call 124; refine (htop _).mono ?_; rintro e w1 ⟨rfl, hb1⟩; obtain ⟨⟨c0, c1, c2⟩, ho1⟩ := one_box hb1) | (go_at_call 80; refine (hwin _ (hr.below ho1)).mono ?_; rintro e w' ⟨rfl, hww⟩; subst hww) | (go_at_call 126; refine (hcall _ (hr.below ho1)).mono ?_; rintro e w' ⟨rfl, hww⟩; subst hww) | (go_at_call 127; refine (hjc' _).mono ?_; rintro e w2 ⟨rfl, hb2⟩))
        go_ret
        exact ⟨rfl, ho1.trans (hb2.mono ho1.size)⟩
      · subst hb
        go_enter Tryz.func99, Tryz.ntmps99
        go_wp2_with (first | (go_at_call 124; refine (htop _).mono ?_; rintro e w1 ⟨rfl, hb1⟩; obtain ⟨⟨c0, c1, c2⟩, ho1⟩ := one_box hb1) | (go_at_call 80; refine (hwin _ (hr.below ho1)).mono ?_; rintro e w' ⟨rfl, hww⟩; subst hww) | (go_at_call 126; refine (hcall _ (hr.below ho1)).mono ?_; rintro e w' ⟨rfl, hww⟩; subst hww) | (go_at_call 127; refine (hjc' _).mono ?_; rintro e w2 ⟨rfl, hb2⟩))
        go_ret
        exact ⟨rfl, ho1.trans (hb2.mono ho1.size)⟩
  · have hkk : kp = kv := by rw [hkp, if_neg (by omega)]
    subst hkk
    have hcall := fun w' hr' => goesUp_any xs ao cap 0 m w' hr' hL (by omega) (by omega) HM.out
    clear hkp hgu
    rcases hla with ⟨ha, hb⟩ | ⟨ha, hb⟩
    · go_enter Tryz.func99, Tryz.ntmps99
      go_wp2_with (first | (go_at_call 124; refine (htop _).mono ?_; rintro e w1 ⟨rfl, hb1⟩; obtain ⟨⟨c0, c1, c2⟩, ho1⟩ := one_box hb1) | (go_at_call 80; refine (hwin _ (hr.below ho1)).mono ?_; rintro e w' ⟨rfl, hww⟩; subst hww) | (go_at_call 126; refine (hcall _ (hr.below ho1)).mono ?_; rintro e w' ⟨rfl, hww⟩; subst hww) | (go_at_call 127; refine (hjc' _).mono ?_; rintro e w2 ⟨rfl, hb2⟩))
      go_ret
      exact ⟨rfl, ho1.trans (hb2.mono ho1.size)⟩
    · subst hb
      go_enter Tryz.func99, Tryz.ntmps99
      go_wp2_with (first | (go_at_call 124; refine (htop _).mono ?_; rintro e w1 ⟨rfl, hb1⟩; obtain ⟨⟨c0, c1, c2⟩, ho1⟩ := one_box hb1) | (go_at_call 80; refine (hwin _ (hr.below ho1)).mono ?_; rintro e w' ⟨rfl, hww⟩; subst hww) | (go_at_call 126; refine (hcall _ (hr.below ho1)).mono ?_; rintro e w' ⟨rfl, hww⟩; subst hww) | (go_at_call 127; refine (hjc' _).mono ?_; rintro e w2 ⟨rfl, hb2⟩))
      go_ret
      exact ⟨rfl, ho1.trans (hb2.mono ho1.size)⟩
end Go.Proofs.YtnclddfljghebaaGreatDoor

namespace Go.Proofs.YtnclddfljghebaaGreatDoor
open Go.RowKit

theorem roundSize_any (d : Dy) (ao : Option Addr) (cap : Nat) (m : Int) (w : World) (hr : LRow w ao d.mag) (hL : Lm d.mag) (h0 : vl d.mag ≠ 0) (hn : d.mag.length ≤ 256) (h1 : -65536 ≤ d.exp) (h2 : d.exp ≤ 65536) (hm : m = 0 ∨ m = 2 ∨ m = 3) :
    Calls Tryz.prog 99 #[.agg #[.bool d.neg, .slice ao d.mag.length cap, .int .i64 d.exp], .int .i8 m] w fun e w' => e = .returned (.float .f64 (rSz (vl d.mag) d.exp m)) ∧ Below w.heap.size w w' := by
  by_cases hg : 1024 < (bl (vl d.mag) : Int) + d.exp
  · exact roundSize_great d ao cap m w hr hL hn h1 h2 hm hg
  · obtain ⟨k1, k2, k3, k4, k5⟩ := kept_bd h0 (show (bl (vl d.mag) : Int) + d.exp ≤ 1024 by omega)
    have hkp : rKp (vl d.mag) d.exp m ≤ 9007199254740992 := by unfold rKp; split <;> omega
    have hor : rLa (vl d.mag) d.exp = -1074 ∨ 4503599627370496 ≤ rKp (vl d.mag) d.exp m := by
      rcases k5 with h | h
      · exact Or.inl h
      · right; unfold rKp; split <;> omega
    obtain ⟨c, hc1, hc2⟩ := mul_kept hkp k3 k4 hor
    have e : rSz (vl d.mag) d.exp m = rW (rKp (vl d.mag) d.exp m) (rLa (vl d.mag) d.exp) := by unfold rSz; rw [if_neg hg]
    rw [e]
    exact roundSize_walk d.neg d.mag d.exp ao cap m (rLa (vl d.mag) d.exp) (rDr (vl d.mag) d.exp) (win (vl d.mag) (rDr (vl d.mag) d.exp)) (rUp (vl d.mag) (rDr (vl d.mag) d.exp) m) (rKp (vl d.mag) d.exp m) c _ w hr hL hn h1 h2 hm hg (by unfold rLa; omega) rfl rfl (by omega) (fun _ => rfl) rfl k3 k4 hc1 hc2

/-- The answer of Round: a word. -/
def rndW (d : Dy) (m : Int) : Nat := if d.mag.length = 0 then 0 else if d.neg then 9223372036854775808 + rSz (vl d.mag) d.exp (szm d.neg m) else rSz (vl d.mag) d.exp (szm d.neg m)
theorem rSz_lt (v : Nat) (e m : Int) (h0 : v ≠ 0) : rSz v e m ≤ 9218868437227405312 := by
  unfold rSz
  by_cases hg : 1024 < (bl v : Int) + e
  · rw [if_pos hg]; split <;> omega
  · rw [if_neg hg]
    obtain ⟨k1, k2, k3, k4, k5⟩ := kept_bd h0 (show (bl v : Int) + e ≤ 1024 by omega)
    exact rW_lt (by unfold rKp; split <;> omega) k4

set_option maxHeartbeats 1000000 in
theorem Round_ok (neg : Bool) (xs : List Nat) (ex : Int) (ao : Option Addr) (cap : Nat) (m : Int) (w : World) (hr : LRow w ao xs) (hL : Lm xs) (hR : rightB ⟨neg, xs, ex⟩ = true) :
    Calls Tryz.prog 73 #[.agg #[.bool neg, .slice ao xs.length cap, .int .i64 ex], .int .i8 m] w fun e w' => e = .returned (.tuple #[.float .f64 (rndW ⟨neg, xs, ex⟩ m), .int .i64 0]) ∧ Below w.heap.size w w' := by
  have xa := right_exp hR
  simp only at xa
  by_cases hl : xs.length = 0
  · have hb : ((xs.length : Int) == 0) = true := beq_iff_eq.2 (by omega)
    have HE : Hid (rndW ⟨neg, xs, ex⟩ m = 0) := (show _ = _ by unfold rndW; rw [if_pos (by exact hl)])
    clear hl
    go_enter Tryz.func73, Tryz.ntmps73
    go_wp2_with (go_at_call 54; refine (right_any ⟨neg, xs, ex⟩ ao cap _ (hr.alloc _) hL).mono ?_; rintro e w1 ⟨rfl, hb1⟩; obtain ⟨⟨c0, c1, c2⟩, ho1⟩ := one_box hb1)
    go_ret2
    exact ⟨by rw [HE.out]; rfl, ho1⟩
  · have hb : ((xs.length : Int) == 0) = false := beq_eq_false_iff_ne.2 (by omega)
    have h0 := (right_ne hR hl).1
    have hsz := fun w' hr' => roundSize_any ⟨neg, xs, ex⟩ ao cap (szm neg m) w' hr' hL h0 (by simp only; omega) (by simp only; omega) (by simp only; omega) (szm_is neg m)
    have hsl := rSz_lt (vl xs) ex (szm neg m) h0
    simp only at hsz h0
    have HE : Hid (rndW ⟨neg, xs, ex⟩ m = if neg then 9223372036854775808 + rSz (vl xs) ex (szm neg m) else rSz (vl xs) ex (szm neg m)) := (show _ = _ by unfold rndW; rw [if_neg (by exact hl)])
    have hu : ∀ b, Op.unary .neg (.float .f64 b) = pure (.float .f64 (Op.negFloat .f64 b)) := fun _ => rfl
    have hg := neg_word (r := rSz (vl xs) ex (szm neg m)) (by omega)
    generalize rSz (vl xs) ex (szm neg m) = r at *
    have hmode := fun w' => sizeMode_any neg m w'
    generalize szm neg m = mm at *
    clear hl h0 hsl
    cases neg
    · clear hg
      go_enter Tryz.func73, Tryz.ntmps73
      go_wp2_with (go_at_call 54; refine (right_any ⟨false, xs, ex⟩ ao cap _ (hr.alloc _) hL).mono ?_; rintro e w1 ⟨rfl, hb1⟩; obtain ⟨⟨c0, c1, c2⟩, ho1⟩ := one_box hb1)
      go_region_held3 (fun w' => w'.cell? ⟨w.heap.size, 0, none⟩ = some (.bool false) ∧ w'.cell? ⟨w.heap.size, 1, none⟩ = some (.slice ao xs.length cap) ∧ w'.cell? ⟨w.heap.size, 2, none⟩ = some (.int .i64 ex)) (go_keep)
        (first | (go_at_call 100; refine (hmode _).mono ?_; rintro e w' ⟨rfl, hww⟩; subst hww) | (go_at_call 99; refine (hsz _ (hr.below ho1).drew).mono ?_; rintro e w2 ⟨rfl, hb2⟩; replace hb2 := undrew hb2; obtain ⟨c0, c1, c2⟩ := three_on (p := w.heap.size) hb2 ⟨c0, c1, c2⟩; have ho2 : Below w.heap.size w w2 := ho1.trans (hb2.mono ho1.size)))
      go_wp2
      go_ret2
      exact ⟨by rw [HE.out]; rfl, ho2⟩
    · go_enter Tryz.func73, Tryz.ntmps73
      go_wp2_with (go_at_call 54; refine (right_any ⟨true, xs, ex⟩ ao cap _ (hr.alloc _) hL).mono ?_; rintro e w1 ⟨rfl, hb1⟩; obtain ⟨⟨c0, c1, c2⟩, ho1⟩ := one_box hb1)
      go_region_held3 (fun w' => w'.cell? ⟨w.heap.size, 0, none⟩ = some (.bool true) ∧ w'.cell? ⟨w.heap.size, 1, none⟩ = some (.slice ao xs.length cap) ∧ w'.cell? ⟨w.heap.size, 2, none⟩ = some (.int .i64 ex)) (go_keep)
        (first | (go_at_call 100; refine (hmode _).mono ?_; rintro e w' ⟨rfl, hww⟩; subst hww) | (go_at_call 99; refine (hsz _ (hr.below ho1).drew).mono ?_; rintro e w2 ⟨rfl, hb2⟩; replace hb2 := undrew hb2; obtain ⟨c0, c1, c2⟩ := three_on (p := w.heap.size) hb2 ⟨c0, c1, c2⟩; have ho2 : Below w.heap.size w w2 := ho1.trans (hb2.mono ho1.size)))
      go_wp2
      go_ret2
      exact ⟨by rw [HE.out]; rfl, ho2⟩

set_option maxHeartbeats 1000000 in
theorem Round_arg (neg : Bool) (xs : List Nat) (ex : Int) (ao : Option Addr) (cap : Nat) (m : Int) (w : World) (hr : LRow w ao xs) (hL : Lm xs) (hR : rightB ⟨neg, xs, ex⟩ = false) :
    Calls Tryz.prog 73 #[.agg #[.bool neg, .slice ao xs.length cap, .int .i64 ex], .int .i8 m] w fun e w' => e = .returned (.tuple #[.float .f64 0, .int .i64 2]) ∧ Below w.heap.size w w' := by
  go_enter Tryz.func73, Tryz.ntmps73
  go_wp2_with (go_at_call 54; refine (right_any ⟨neg, xs, ex⟩ ao cap _ (hr.alloc _) hL).mono ?_; rintro e w1 ⟨rfl, hb1⟩; obtain ⟨⟨c0, c1, c2⟩, ho1⟩ := one_box hb1)
  go_ret2
  exact ⟨rfl, ho1⟩
end Go.Proofs.YtnclddfljghebaaGreatDoor

namespace Go.Proofs.YtnclddfljghebaaGreatDoor
open Go.RowKit

/-- The dyad of a float. -/
def ofD (a : Nat) : Dy × Int := if finB a = false then (dy0, 5) else if spF a = 0 then (dy0, 0) else (⟨sgn a, [spF a], spE a⟩, 0)

theorem one_mark {w w1 : World} {x0 x1 x2 : Value} {s : TypeId} (hb : Below (w.alloc (.cells #[x0, x1, x2] s)).heap.size (w.alloc (.cells #[x0, x1, x2] s)) w1) :
    w1.frozen? ⟨w.heap.size, 0, none⟩ = false ∧ w1.frozen? ⟨w.heap.size, 1, none⟩ = false ∧ w1.frozen? ⟨w.heap.size, 2, none⟩ = false := by
  obtain ⟨hc, hf⟩ := oldc hb
  have l0 : w.heap.size < (w.alloc (.cells #[x0, x1, x2] s)).heap.size := by go_simp
  refine ⟨?_, ?_, ?_⟩
  · rw [hf _ _ l0]; go_simp
  · rw [hf _ _ l0]; go_simp
  · rw [hf _ _ l0]; go_simp
theorem mark_alloc {w : World} {a : Addr} {v : Value} (h : w.cell? a = some v) (hf : w.frozen? a = false) (o : Obj) : (w.alloc o).frozen? a = false := by
  rw [((Below.refl _ _).alloc (Nat.le_refl _) o).frozen (World.block_lt_of_cell? w _ h)]; exact hf
theorem one_lrow (w : World) (x : Nat) (o : Obj) (ho : o = .cells #[.int .u64 (x : Nat)] 46) : LRow (w.alloc o) (some ⟨w.heap.size, 0, none⟩) [x] := by
  right
  refine ⟨w.heap.size, 0, rfl, fun j hj => ?_⟩
  have : j = 0 := by simp at hj; omega
  subst this
  subst ho
  go_simp

set_option maxHeartbeats 1000000 in
theorem Of_any (a : Nat) (ha : a < 18446744073709551616) (w : World) (hT : TabW w) :
    Calls Tryz.prog 51 #[.float .f64 a] w (Gave w (ofD a)) := by
  cases hf : finB a
  · have e : ofD a = (dy0, 5) := by unfold ofD; rw [if_pos hf]
    rw [e]
    have hsp := fun o => split_inf a ha hf (w.alloc o)
    go_enter Tryz.func51, Tryz.ntmps51
    clear e
    go_wp2_with (go_at_call 85; refine (hsp _).mono ?_; rintro e w1 ⟨rfl, hb1⟩; obtain ⟨⟨c0, c1, c2⟩, ho1⟩ := one_box hb1; obtain ⟨f0, f1, f2⟩ := one_mark hb1; have g0 := mark_alloc c0 f0; have g1 := mark_alloc c1 f1; have g2 := mark_alloc c2 f2; have i0 := fun o => mark_alloc (cell_alloc c0 o) (g0 o); have i1 := fun o => mark_alloc (cell_alloc c1 o) (g1 o); have i2 := fun o => mark_alloc (cell_alloc c2 o) (g2 o); have d0 := cell_alloc c0; have d1 := cell_alloc c1; have d2 := cell_alloc c2; have h0 := fun o => cell_alloc (d0 o); have h1 := fun o => cell_alloc (d1 o); have h2 := fun o => cell_alloc (d2 o))
    exact bodyPost_ret (v := .tuple #[.agg #[.bool false, .slice none 0 0, .int .i64 0], .int .i64 5]) (by simp [results, Tryz.results51, go_sem, d0, d1, d2]) rfl ⟨none, 0, rfl, LRow.nil _ _, Frs.none _, (((ho1.alloc ho1.size _).setCell (by simp) _).setCell (by simp) _).setCell (by simp) _⟩
  · have hsp := fun o => split_fin a ha hf (w.alloc o) (tabW_alloc hT o)
    by_cases h0 : spF a = 0
    · have e : ofD a = (dy0, 0) := by unfold ofD; rw [if_neg (by rw [hf]; simp), if_pos h0]
      rw [e]
      rw [h0] at hsp
      clear e h0
      generalize sgn a = sg at *
      generalize spE a = se at *
      go_enter Tryz.func51, Tryz.ntmps51
      go_wp2_with (go_at_call 85; refine (hsp _).mono ?_; rintro e w1 ⟨rfl, hb1⟩; obtain ⟨⟨c0, c1, c2⟩, ho1⟩ := one_box hb1; obtain ⟨f0, f1, f2⟩ := one_mark hb1; have g0 := mark_alloc c0 f0; have g1 := mark_alloc c1 f1; have g2 := mark_alloc c2 f2; have i0 := fun o => mark_alloc (cell_alloc c0 o) (g0 o); have i1 := fun o => mark_alloc (cell_alloc c1 o) (g1 o); have i2 := fun o => mark_alloc (cell_alloc c2 o) (g2 o); have d0 := cell_alloc c0; have d1 := cell_alloc c1; have d2 := cell_alloc c2; have h0 := fun o => cell_alloc (d0 o); have h1 := fun o => cell_alloc (d1 o); have h2 := fun o => cell_alloc (d2 o))
      exact bodyPost_ret (v := .tuple #[.agg #[.bool false, .slice none 0 0, .int .i64 0], .int .i64 0]) (by simp [results, Tryz.results51, go_sem, d0, d1, d2]) rfl ⟨none, 0, rfl, LRow.nil _ _, Frs.none _, (((ho1.alloc ho1.size _).setCell (by simp) _).setCell (by simp) _).setCell (by simp) _⟩
    · have e : ofD a = (⟨sgn a, [spF a], spE a⟩, 0) := by unfold ofD; rw [if_neg (by rw [hf]; simp), if_neg h0]
      rw [e]
      have hb0 : ((spF a : Int) == 0) = false := by simp; omega
      clear e h0
      generalize sgn a = sg at *
      generalize spF a = sf at *
      generalize spE a = se at *
      go_enter Tryz.func51, Tryz.ntmps51
      go_wp2_with (go_at_call 85; refine (hsp _).mono ?_; rintro e w1 ⟨rfl, hb1⟩; obtain ⟨⟨c0, c1, c2⟩, ho1⟩ := one_box hb1; obtain ⟨f0, f1, f2⟩ := one_mark hb1; have g0 := mark_alloc c0 f0; have g1 := mark_alloc c1 f1; have g2 := mark_alloc c2 f2; have i0 := fun o => mark_alloc (cell_alloc c0 o) (g0 o); have i1 := fun o => mark_alloc (cell_alloc c1 o) (g1 o); have i2 := fun o => mark_alloc (cell_alloc c2 o) (g2 o); have d0 := cell_alloc c0; have d1 := cell_alloc c1; have d2 := cell_alloc c2; have h0 := fun o => cell_alloc (d0 o); have h1 := fun o => cell_alloc (d1 o); have h2 := fun o => cell_alloc (d2 o))
      have hsz : (w1.alloc (.cells #[.bool sg, .int .u64 (sf : Nat), .int .i64 se] 89)).heap.size = w1.heap.size + 1 := by go_simp
      have hl := one_lrow (w1.alloc (.cells #[.bool sg, .int .u64 (sf : Nat), .int .i64 se] 89)) sf _ rfl
      rw [hsz] at hl
      have hge := ho1.size
      have hfr : Frs (w1.heap.size + 1) (some ⟨w1.heap.size + 1, 0, none⟩) := fun a e => by cases e; exact Nat.le_refl _
      exact bodyPost_ret (v := .tuple #[.agg #[.bool sg, .slice (some ⟨w1.heap.size + 1, 0, none⟩) 1 1, .int .i64 se], .int .i64 0]) (by simp [results, Tryz.results51, go_sem, h0, h1, h2]) rfl ⟨some ⟨w1.heap.size + 1, 0, none⟩, 1, rfl, ((hl.box hfr (by omega) _ _).box hfr (by omega) _ _).box hfr (by omega) _ _, hfr.mono (by omega), (((((ho1.alloc ho1.size _).alloc (by simp; omega) _).setCell (by simp) _).setCell (by simp) _).setCell (by simp) _)⟩

/-- The dyad of a whole number. -/
def intD (n : Int) : Dy := (normD ⟨decide (n < 0), [n.natAbs], 0⟩).1
def GaveD (w : World) (d : Dy) (e : Ending) (w' : World) : Prop :=
  ∃ ao cap, e = .returned (.agg #[.bool d.neg, .slice ao d.mag.length cap, .int .i64 d.exp]) ∧ LRow w' ao d.mag ∧ Frs w.heap.size ao ∧ Below w.heap.size w w'

end Go.Proofs.YtnclddfljghebaaGreatDoor
