/- Add and Sub of layer 7's package limbs: any limbs. (Written by mkwh1.py.) -/
import Derived.Test.YtmcnnnmlacpppaaDoorWh0
import Derived.Test.YtmcnnnmlacpppaaDoorZp
namespace Go.Proofs.YtmcnnnmlacpppaaDoor
open Go.RowKit

/-- A whole number handed back as limbs. -/
def GaveLW (w : World) (z : Nat) (e : Ending) (w' : World) : Prop := ∃ ao cap, e = .returned (.slice ao (nl z) cap) ∧ LS w' ao cap (lo z) ∧ Below w.heap.size w w'
set_option maxHeartbeats 1000000 in
theorem each_add (xs ys : List Nat) (ao bo : Option Addr) (cap bcap : Nat) (w : World) (hr : LRow w ao xs) (hs : LRow w bo ys) (hL : Lm xs) (hM : Lm ys) (n1 : xs.length ≤ 100000) (n2 : ys.length ≤ 100000) :
    Calls Tryd.prog 77 #[.slice ao xs.length cap, .slice bo ys.length bcap, .func (.func 78) #[] #[]] w (GaveLW w (vl xs + vl ys)) := by
  obtain ⟨n, hn⟩ : ∃ n, max xs.length ys.length + 1 = n := ⟨_, rfl⟩
  have hmk := run_make_row' (P := Tryd.prog) 23 22 (.int .u64 0) 8 Tryd.underlying23 Tryd.infoU rfl .i64 .i64 n (by omega) (by omega)
  have hmx : (if xs.length < ys.length then (ys.length : Int) else (xs.length : Int)) + 1 = (n : Int) := by split <;> omega
  have hmade := FRow.made w n
  have hbm : Below w.heap.size w (w.alloc (.cells (madeCells #[.int .u64 0] n) 22)) := (Below.refl _ _).alloc (Nat.le_refl _) _
  have hA : vl xs < 2 ^ (64 * xs.length) := vl_lt hL
  have hB : vl ys < 2 ^ (64 * ys.length) := vl_lt hM
  have HFit : Hid (vl xs + vl ys < 2 ^ (64 * n)) := (show _ < _ by
    have a : 2 ^ (64 * xs.length) ≤ 2 ^ (64 * (n - 1)) := Nat.pow_le_pow_right (by omega) (by omega)
    have b : 2 ^ (64 * ys.length) ≤ 2 ^ (64 * (n - 1)) := Nat.pow_le_pow_right (by omega) (by omega)
    have e : 2 ^ (64 * (n - 1) + 1) ≤ 2 ^ (64 * n) := Nat.pow_le_pow_right (by omega) (by omega)
    rw [Nat.pow_succ] at e
    omega)
  have hx : Hid (∀ k : Nat, lmb xs (k : Int) = vl xs / 2 ^ (64 * k) % 18446744073709551616) := fun k => by unfold lmb; rw [if_neg (by omega)]; exact vl_digit hL k
  have hy : Hid (∀ k : Nat, lmb ys (k : Int) = vl ys / 2 ^ (64 * k) % 18446744073709551616) := fun k => by unfold lmb; rw [if_neg (by omega)]; exact vl_digit hM k
  have HL : Hid (vl ys ≤ vl xs ∨ True) := Or.inr trivial
  skip
  have hn2 : n ≤ 100001 := by omega
  clear hA hB hn 
  go_enter Tryd.func77, Tryd.ntmps77
  go_upto_region 2 with fail
  generalize (if xs.length < ys.length then (ys.length : Int) else (xs.length : Int)) = mm at *
  clear hmx hmk
  go_wp2
  go_loopg [8, 19] n (fun g cv i wr => ∃ (k : Nat) (out : List Nat) (c : Nat), k ≤ n ∧ g = n - k ∧ i = .int .i64 k ∧ cv = .int .u64 c ∧ out.length = k ∧ Hid (Summed (vl xs) (vl ys) out c) ∧ FRow wr w.heap.size n (laidF (fun _ => 0) 0 k out) ∧ Below w.heap.size w wr)
  case atStart => exact ⟨0, [], 0, Nat.zero_le _, rfl, rfl, rfl, rfl, summed_nil _ _, hmade.congr (fun j _ => (laidF_zero (fun _ => 0) 0 [] j).symm), hbm⟩
  case round =>
    obtain ⟨k, out, c, hk, hg, rfl, rfl, hol, hR, hrw, hbw⟩ := hrel
    clear hmade hbm
    by_cases hlt : k < n
    · have kc : c ≤ 1 := hR.out.2.1
      have hRs := summed_step hR.out
      rw [hol] at hRs
      have c1 := limb_any xs ao cap (k : Int) wr (hr.below hbw)
      have c2 := limb_any ys bo bcap (k : Int) wr (hs.below hbw)
      rw [hx.out k] at c1
      rw [hy.out k] at c2
      obtain ⟨xk, hxk⟩ : ∃ xk, vl xs / 2 ^ (64 * k) % 18446744073709551616 = xk := ⟨_, rfl⟩
      obtain ⟨yk, hyk⟩ : ∃ yk, vl ys / 2 ^ (64 * k) % 18446744073709551616 = yk := ⟨_, rfl⟩
      have hxl : xk < 18446744073709551616 := by rw [← hxk]; exact Nat.mod_lt _ (by omega)
      have hyl : yk < 18446744073709551616 := by rw [← hyk]; exact Nat.mod_lt _ (by omega)
      rw [hxk] at c1
      rw [hyk] at c2
      rw [hxk, hyk] at hRs
      have HR2 : Hid _ := hRs
      have hst := fun w' => add64_run (xk : Int) (yk : Int) (c : Int) (by omega) (by omega) (by omega) (by omega) w'
      have ev : (((xk + yk + c) % 18446744073709551616 : Nat) : Int) = ((xk : Int) + yk + c) % 18446744073709551616 := by omega
      have ec : (((xk + yk + c) / 18446744073709551616 : Nat) : Int) = ((xk : Int) + yk + c) / 18446744073709551616 := by omega
      have g1 := World.rowIs.cell hrw (i := k) hlt
      have g2 := World.rowIs.frozen hrw k
      have hset := hrw.set k ((xk + yk + c) % 18446744073709551616)
      rw [ev] at hset
      have HEC : Hid (((xk + yk + c) / 18446744073709551616 : Nat) = ((xk : Int) + yk + c) / 18446744073709551616) := ec
      have hbs := fun v => hbw.setCell (p := ⟨w.heap.size, k, none⟩) (Nat.le_refl _) (.int .u64 v)
      clear hRs hR hxk hyk ev ec hrw hbw
      go_wp2_with (first | (go_at_call_of 71 (Value.slice ao xs.length cap); refine c1.mono ?_; rintro e w' ⟨rfl, hww⟩; subst hww) | (go_at_call_of 71 (Value.slice bo ys.length bcap); refine c2.mono ?_; rintro e w' ⟨rfl, hww⟩; subst hww))
      go_roundg (n - (k + 1))
      case measure => omega
      case rel => exact ⟨k + 1, _, _, by omega, rfl, by go_num, (by rw [HEC.out]), (by simp [hol]), HR2, hset.congr (fun j _ => by have := laidF_snoc (f := fun _ => 0) (off := 0) hol ((xk + yk + c) % 18446744073709551616) j; rw [Nat.zero_add] at this; exact this), hbs _⟩
    · have hkn : k = n := by omega
      have hLo : Lm out := hR.out.1
      have HV : vl out = vl xs + vl ys := summed_end hR.out (by rw [hol, hkn]; exact HFit.out)
      have hO : LS wr (some ⟨w.heap.size, 0, none⟩) n out := ⟨FRow.lrow hrw (by omega) (fun j hj => by unfold laidF; rw [if_pos (by omega), Nat.sub_zero]), by omega, fun e => by cases e⟩
      have ct := trimL_any out (some ⟨w.heap.size, 0, none⟩) n wr hO hLo (by omega)
      have hT := hO.trim hLo
      rw [HV] at ct hT
      rw [hol, hkn] at ct
      clear HV hR hrw hO hkn
      generalize vl xs + vl ys = Z at *
      go_wp2_with (go_at_call 43; refine ct.mono ?_; rintro e w1 ⟨rfl, hww⟩; subst hww)
      go_ret
      exact ⟨_, _, rfl, hT, hbw⟩
set_option maxHeartbeats 1000000 in
theorem each_sub (xs ys : List Nat) (ao bo : Option Addr) (cap bcap : Nat) (w : World) (hr : LRow w ao xs) (hs : LRow w bo ys) (hL : Lm xs) (hM : Lm ys) (n1 : xs.length ≤ 100000) (n2 : ys.length ≤ 100000) (hle : vl ys ≤ vl xs) :
    Calls Tryd.prog 77 #[.slice ao xs.length cap, .slice bo ys.length bcap, .func (.func 79) #[] #[]] w (GaveLW w (vl xs - vl ys)) := by
  obtain ⟨n, hn⟩ : ∃ n, max xs.length ys.length + 1 = n := ⟨_, rfl⟩
  have hmk := run_make_row' (P := Tryd.prog) 23 22 (.int .u64 0) 8 Tryd.underlying23 Tryd.infoU rfl .i64 .i64 n (by omega) (by omega)
  have hmx : (if xs.length < ys.length then (ys.length : Int) else (xs.length : Int)) + 1 = (n : Int) := by split <;> omega
  have hmade := FRow.made w n
  have hbm : Below w.heap.size w (w.alloc (.cells (madeCells #[.int .u64 0] n) 22)) := (Below.refl _ _).alloc (Nat.le_refl _) _
  have hA : vl xs < 2 ^ (64 * xs.length) := vl_lt hL
  have hB : vl ys < 2 ^ (64 * ys.length) := vl_lt hM
  have HFit : Hid (vl xs + vl ys < 2 ^ (64 * n)) := (show _ < _ by
    have a : 2 ^ (64 * xs.length) ≤ 2 ^ (64 * (n - 1)) := Nat.pow_le_pow_right (by omega) (by omega)
    have b : 2 ^ (64 * ys.length) ≤ 2 ^ (64 * (n - 1)) := Nat.pow_le_pow_right (by omega) (by omega)
    have e : 2 ^ (64 * (n - 1) + 1) ≤ 2 ^ (64 * n) := Nat.pow_le_pow_right (by omega) (by omega)
    rw [Nat.pow_succ] at e
    omega)
  have hx : Hid (∀ k : Nat, lmb xs (k : Int) = vl xs / 2 ^ (64 * k) % 18446744073709551616) := fun k => by unfold lmb; rw [if_neg (by omega)]; exact vl_digit hL k
  have hy : Hid (∀ k : Nat, lmb ys (k : Int) = vl ys / 2 ^ (64 * k) % 18446744073709551616) := fun k => by unfold lmb; rw [if_neg (by omega)]; exact vl_digit hM k
  have HL : Hid (vl ys ≤ vl xs ∨ True) := Or.inr trivial
  have HLE : Hid (vl ys ≤ vl xs) := hle
  have hn2 : n ≤ 100001 := by omega
  clear hA hB hn hle
  go_enter Tryd.func77, Tryd.ntmps77
  go_upto_region 2 with fail
  generalize (if xs.length < ys.length then (ys.length : Int) else (xs.length : Int)) = mm at *
  clear hmx hmk
  go_wp2
  go_loopg [8, 19] n (fun g cv i wr => ∃ (k : Nat) (out : List Nat) (c : Nat), k ≤ n ∧ g = n - k ∧ i = .int .i64 k ∧ cv = .int .u64 c ∧ out.length = k ∧ Hid (Lessed (vl xs) (vl ys) out c) ∧ FRow wr w.heap.size n (laidF (fun _ => 0) 0 k out) ∧ Below w.heap.size w wr)
  case atStart => exact ⟨0, [], 0, Nat.zero_le _, rfl, rfl, rfl, rfl, lessed_nil _ _, hmade.congr (fun j _ => (laidF_zero (fun _ => 0) 0 [] j).symm), hbm⟩
  case round =>
    obtain ⟨k, out, c, hk, hg, rfl, rfl, hol, hR, hrw, hbw⟩ := hrel
    clear hmade hbm
    by_cases hlt : k < n
    · have kc : c ≤ 1 := hR.out.2.1
      have c1 := limb_any xs ao cap (k : Int) wr (hr.below hbw)
      have c2 := limb_any ys bo bcap (k : Int) wr (hs.below hbw)
      rw [hx.out k] at c1
      rw [hy.out k] at c2
      obtain ⟨xk, hxk⟩ : ∃ xk, vl xs / 2 ^ (64 * k) % 18446744073709551616 = xk := ⟨_, rfl⟩
      obtain ⟨yk, hyk⟩ : ∃ yk, vl ys / 2 ^ (64 * k) % 18446744073709551616 = yk := ⟨_, rfl⟩
      have hxl : xk < 18446744073709551616 := by rw [← hxk]; exact Nat.mod_lt _ (by omega)
      have hyl : yk < 18446744073709551616 := by rw [← hyk]; exact Nat.mod_lt _ (by omega)
      rw [hxk] at c1
      rw [hyk] at c2
      obtain ⟨s, hs'⟩ : ∃ s, (xk + 18446744073709551616 - yk - c) % 18446744073709551616 = s := ⟨_, rfl⟩
      obtain ⟨d, hd⟩ : ∃ d, (if xk < yk + c then 1 else 0) = d := ⟨_, rfl⟩
      have hd1 : d ≤ 1 := by rw [← hd]; split <;> omega
      have hs1 : s < 18446744073709551616 := by rw [← hs']; exact Nat.mod_lt _ (by omega)
      have HR2 : Hid (Lessed (vl xs) (vl ys) (out ++ [s]) d) := lessed_step hR.out hs1 hd1 (by rw [hol, hxk, hyk, ← hs', ← hd]; split <;> omega)
      have hst := fun w' => sub64_run xk yk c kc w'
      rw [hs', hd] at hst
      have g1 := World.rowIs.cell hrw (i := k) hlt
      have g2 := World.rowIs.frozen hrw k
      have hset := hrw.set k s
      have hbs := fun v => hbw.setCell (p := ⟨w.heap.size, k, none⟩) (Nat.le_refl _) (.int .u64 v)
      clear hR hxk hyk hs' hd hrw hbw
      go_wp2_with (first | (go_at_call_of 71 (Value.slice ao xs.length cap); refine c1.mono ?_; rintro e w' ⟨rfl, hww⟩; subst hww) | (go_at_call_of 71 (Value.slice bo ys.length bcap); refine c2.mono ?_; rintro e w' ⟨rfl, hww⟩; subst hww))
      go_roundg (n - (k + 1))
      case measure => omega
      case rel => exact ⟨k + 1, _, _, by omega, rfl, by go_num, rfl, (by simp [hol]), HR2, hset.congr (fun j _ => by have := laidF_snoc (f := fun _ => 0) (off := 0) hol s j; rw [Nat.zero_add] at this; exact this), hbs _⟩
    · have hkn : k = n := by omega
      have hLo : Lm out := hR.out.1
      have HV : vl out = vl xs - vl ys := by have := lessed_end hR.out (by rw [hol, hkn]; have := HFit.out; omega) HLE.out; omega
      have hO : LS wr (some ⟨w.heap.size, 0, none⟩) n out := ⟨FRow.lrow hrw (by omega) (fun j hj => by unfold laidF; rw [if_pos (by omega), Nat.sub_zero]), by omega, fun e => by cases e⟩
      have ct := trimL_any out (some ⟨w.heap.size, 0, none⟩) n wr hO hLo (by omega)
      have hT := hO.trim hLo
      rw [HV] at ct hT
      rw [hol, hkn] at ct
      clear HV hR hrw hO hkn
      generalize vl xs - vl ys = Z at *
      go_wp2_with (go_at_call 43; refine ct.mono ?_; rintro e w1 ⟨rfl, hww⟩; subst hww)
      go_ret
      exact ⟨_, _, rfl, hT, hbw⟩
set_option maxHeartbeats 400000 in
theorem ladd_any (xs ys : List Nat) (ao bo : Option Addr) (cap bcap : Nat) (w : World) (hr : LRow w ao xs) (hs : LRow w bo ys) (hL : Lm xs) (hM : Lm ys) (n1 : xs.length ≤ 100000) (n2 : ys.length ≤ 100000) :
    Calls Tryd.prog 60 #[.slice ao xs.length cap, .slice bo ys.length bcap] w (GaveLW w (vl xs + vl ys)) := by
  have c := each_add xs ys ao bo cap bcap w hr hs hL hM n1 n2
  generalize vl xs + vl ys = Z at *
  go_enter Tryd.func60, Tryd.ntmps60
  go_wp2_with (go_at_call 77; refine c.mono ?_; rintro e w1 ⟨zo, zc, rfl, h1, h2⟩)
  go_ret
  exact ⟨_, _, rfl, h1, h2⟩
set_option maxHeartbeats 400000 in
theorem lsub_any (xs ys : List Nat) (ao bo : Option Addr) (cap bcap : Nat) (w : World) (hr : LRow w ao xs) (hs : LRow w bo ys) (hL : Lm xs) (hM : Lm ys) (n1 : xs.length ≤ 100000) (n2 : ys.length ≤ 100000) (hle : vl ys ≤ vl xs) :
    Calls Tryd.prog 61 #[.slice ao xs.length cap, .slice bo ys.length bcap] w (GaveLW w (vl xs - vl ys)) := by
  have c := each_sub xs ys ao bo cap bcap w hr hs hL hM n1 n2 hle
  clear hle
  generalize vl xs - vl ys = Z at *
  go_enter Tryd.func61, Tryd.ntmps61
  go_wp2_with (go_at_call 77; refine c.mono ?_; rintro e w1 ⟨zo, zc, rfl, h1, h2⟩)
  go_ret
  exact ⟨_, _, rfl, h1, h2⟩
end Go.Proofs.YtmcnnnmlacpppaaDoor
