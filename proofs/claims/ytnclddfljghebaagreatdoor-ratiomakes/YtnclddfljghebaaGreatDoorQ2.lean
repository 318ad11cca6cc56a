/- What limbs.Div answers. -/
import Derived.Test.YtnclddfljghebaaGreatDoorZp
import Derived.Test.YtnclddfljghebaaGreatDoorZl
import Derived.Test.YtnclddfljghebaaGreatDoorQ1
namespace Go.Proofs.YtnclddfljghebaaGreatDoor
open Go.RowKit

/-- Limbs in a slice that may be cut. -/
def LS (w : World) (ao : Option Addr) (cap : Nat) (xs : List Nat) : Prop := LRow w ao xs ∧ xs.length ≤ cap ∧ (ao = none → cap = 0)
theorem LS.below {w w' : World} {ao : Option Addr} {cap : Nat} {xs : List Nat} (h : LS w ao cap xs) (hb : Below w.heap.size w w') : LS w' ao cap xs := ⟨h.1.below hb, h.2⟩
theorem nlW_le {xs : List Nat} (h : Lm xs) : nl (vl xs) ≤ xs.length := by
  have := bl_le_iff.2 (vl_lt h)
  unfold nl
  omega
theorem loW_take {xs : List Nat} (h : Lm xs) : lo (vl xs) = xs.take (nl (vl xs)) := by
  have hl := nlW_le h
  refine List.ext_getElem (by rw [lo_length, List.length_take]; omega) fun i h1 h2 => ?_
  rw [lo_length] at h1
  have e1 : (lo (vl xs)).getD i 0 = vl xs / 2 ^ (64 * i) % 18446744073709551616 := by unfold lo; exact tl_getD h1
  have e2 := vl_digit h i
  rw [← e2] at e1
  simp only [List.getD_eq_getElem?_getD] at e1
  rw [List.getElem?_eq_getElem (by rw [lo_length]; exact h1), List.getElem?_eq_getElem (show i < xs.length by omega)] at e1
  simpa using e1
theorem LS.trim {w : World} {ao : Option Addr} {cap : Nat} {xs : List Nat} (h : LS w ao cap xs) (hL : Lm xs) : LS w ao cap (lo (vl xs)) := by
  have hl := nlW_le hL
  refine ⟨?_, by rw [lo_length]; have := h.2.1; omega, h.2.2⟩
  rcases h.1 with h0 | ⟨b, off, rfl, hc⟩
  · exact Or.inl (by rw [lo_length]; omega)
  · refine Or.inr ⟨b, off, rfl, fun j hj => ?_⟩
    rw [lo_length] at hj
    rw [hc j (by omega), loW_take hL]
    simp only [List.getD_eq_getElem?_getD, List.getElem?_take, if_pos hj]
set_option maxHeartbeats 400000 in
theorem trimL_any (xs : List Nat) (ao : Option Addr) (cap : Nat) (w : World) (h : LS w ao cap xs) (hL : Lm xs) (hn : xs.length ≤ 1000000) :
    Calls Tryz.prog 35 #[.slice ao xs.length cap] w fun e w' => e = .returned (.slice ao (nl (vl xs)) cap) ∧ w' = w := by
  have hcl := bitLen_any xs ao cap w h.1 hL (by omega)
  have ht := nlW_le hL
  have hc := h.2.1
  unfold nl at ht ⊢
  obtain ⟨l, hl⟩ : ∃ l, bl (vl xs) = l := ⟨_, rfl⟩
  rw [hl] at hcl ht ⊢
  have i1 : ((l : Int) + 64 - 1) / 64 = (((l + 63) / 64 : Nat) : Int) := by omega
  have i2 : (((l + 63) / 64 : Nat) : Int) ≤ (cap : Int) := by omega
  have i3 : l ≤ 100000000 := by omega
  obtain ⟨m, hm⟩ : ∃ m, (l + 63) / 64 = m := ⟨_, rfl⟩
  rw [hm] at i1 i2 ht ⊢
  have h0 := h.2.2
  clear hl hm h
  cases ao with
  | none =>
    have c0 := h0 rfl
    have m0 : m = 0 := by omega
    subst c0
    subst m0
    obtain ⟨N, hN⟩ : ∃ N, xs.length = N := ⟨_, rfl⟩
    have N0 : N = 0 := by omega
    rw [hN] at hcl ⊢
    subst N0
    clear hN hc ht i2
    go_enter Tryz.func35, Tryz.ntmps35
    go_wp2_with (go_at_call 37; refine hcl.mono ?_; rintro e w1 ⟨rfl, h1⟩; subst w1)
    go_ret
    exact ⟨rfl, rfl⟩
  | some a =>
    clear h0
    go_enter Tryz.func35, Tryz.ntmps35
    go_wp2_with (go_at_call 37; refine hcl.mono ?_; rintro e w1 ⟨rfl, h1⟩; subst w1)
    go_ret
    exact ⟨rfl, rfl⟩
end Go.Proofs.YtnclddfljghebaaGreatDoor

namespace Go.Proofs.YtnclddfljghebaaGreatDoor
open Go.RowKit

/-- A whole number handed back as limbs. -/
def GaveLW (w : World) (z : Nat) (e : Ending) (w' : World) : Prop := ∃ ao cap, e = .returned (.slice ao (nl z) cap) ∧ LS w' ao cap (lo z) ∧ Below w.heap.size w w'
set_option maxHeartbeats 1000000 in
theorem each_add (xs ys : List Nat) (ao bo : Option Addr) (cap bcap : Nat) (w : World) (hr : LRow w ao xs) (hs : LRow w bo ys) (hL : Lm xs) (hM : Lm ys) (n1 : xs.length ≤ 100000) (n2 : ys.length ≤ 100000) :
    Calls Tryz.prog 118 #[.slice ao xs.length cap, .slice bo ys.length bcap, .func (.func 107) #[] #[]] w (GaveLW w (vl xs + vl ys)) := by
  obtain ⟨n, hn⟩ : ∃ n, max xs.length ys.length + 1 = n := ⟨_, rfl⟩
  have hmk := run_make_row' (P := Tryz.prog) 22 46 (.int .u64 0) 8 Tryz.underlying22 Tryz.infoU rfl .i64 .i64 n (by omega) (by omega)
  have hmx : (if xs.length < ys.length then (ys.length : Int) else (xs.length : Int)) + 1 = (n : Int) := by split <;> omega
  have hmade := FRow.made w n
  have hbm : Below w.heap.size w (w.alloc (.cells (madeCells #[.int .u64 0] n) 46)) := (Below.refl _ _).alloc (Nat.le_refl _) _
  have hA : vl xs < 2 ^ (64 * xs.length) := vl_lt hL
  have hB : vl ys < 2 ^ (64 * ys.length) := vl_lt hM
  have HFit : Hid (vl xs + vl ys < 2 ^ (64 * n)) := (show _ < _ by
    have a : 2 ^ (64 * xs.length) ≤ 2 ^ (64 * (n - 1)) := Nat.pow_le_pow_right (by omega) (by omega)
    have b : 2 ^ (64 * ys.length) ≤ 2 ^ (64 * (n - 1)) := Nat.pow_le_pow_right (by omega) (by omega)
    have e : 2 ^ (64 * (n - 1) + 1) ≤ 2 ^ (64 * n) := Nat.pow_le_pow_right (by omega) (by omega)
    rw [Nat.pow_succ] at e
    omega)
  have hx : Hid (∀ k : Nat, lmb xs (k : Int) = vl xs / 2 ^ (64 * k) % 18446744073709551616) := fun k => by unfold lmb; rw [if_neg (by omega)]; exact vl_digit hL k
  have hy : Hid (∀ k : Nat, lmb ys (k : Int) = vl ys / 2 ^ (64 * k) % 18446744073709551616) := fun k => by unfold lmb; rw [if_neg (by omega)]; exact vl_digit hM k
  have HL : Hid (vl ys ≤ vl xs ∨ True) := Or.inr trivial
  skip
  have hn2 : n ≤ 100001 := by omega
  clear hA hB hn 
  go_enter Tryz.func118, Tryz.ntmps118
  go_upto_region 2 with fail
  generalize (if xs.length < ys.length then (ys.length : Int) else (xs.length : Int)) = mm at *
  clear hmx hmk
  go_wp2
  go_loopg [8, 19] n (fun g cv i wr => ∃ (k : Nat) (out : List Nat) (c : Nat), k ≤ n ∧ g = n - k ∧ i = .int .i64 k ∧ cv = .int .u64 c ∧ out.length = k ∧ Hid (Summed (vl xs) (vl ys) out c) ∧ FRow wr w.heap.size n (laidF (fun _ => 0) 0 k out) ∧ Below w.heap.size w wr)
  case atStart => exact ⟨0, [], 0, Nat.zero_le _, rfl, rfl, rfl, rfl, summed_nil _ _, hmade.congr (fun j _ => (laidF_zero (fun _ => 0) 0 [] j).symm), hbm⟩
  case round =>
    obtain ⟨k, out, c, hk, hg, rfl, rfl, hol, hR, hrw, hbw⟩ := hrel
    clear hmade hbm
    by_cases hlt : k < n
    · have kc : c ≤ 1 := hR.out.2.1
      have hRs := summed_step hR.out
      rw [hol] at hRs
      have c1 := limb_any xs ao cap (k : Int) wr (hr.below hbw)
      have c2 := limb_any ys bo bcap (k : Int) wr (hs.below hbw)
      rw [hx.out k] at c1
      rw [hy.out k] at c2
      obtain ⟨xk, hxk⟩ : ∃ xk, vl xs / 2 ^ (64 * k) % 18446744073709551616 = xk := ⟨_, rfl⟩
      obtain ⟨yk, hyk⟩ : ∃ yk, vl ys / 2 ^ (64 * k) % 18446744073709551616 = yk := ⟨_, rfl⟩
      have hxl : xk < 18446744073709551616 := by rw [← hxk]; exact Nat.mod_lt _ (by omega)
      have hyl : yk < 18446744073709551616 := by rw [← hyk]; exact Nat.mod_lt _ (by omega)
      rw [hxk] at c1
      rw [hyk] at c2
      rw [hxk, hyk] at hRs
      have HR2 : Hid _ := hRs
      have hst := fun w' => add64_run (xk : Int) (yk : Int) (c : Int) (by omega) (by omega) (by omega) (by omega) w'
      have ev : (((xk + yk + c) % 18446744073709551616 : Nat) : Int) = ((xk : Int) + yk + c) % 18446744073709551616 := by omega
      have ec : (((xk + yk + c) / 18446744073709551616 : Nat) : Int) = ((xk : Int) + yk + c) / 18446744073709551616 := by omega
      have g1 := World.rowIs.cell hrw (i := k) hlt
      have g2 := World.rowIs.frozen hrw k
      have hset := hrw.set k ((xk + yk + c) % 18446744073709551616)
      rw [ev] at hset
      have HEC : Hid (((xk + yk + c) / 18446744073709551616 : Nat) = ((xk : Int) + yk + c) / 18446744073709551616) := ec
      have hbs := fun v => hbw.setCell (p := ⟨w.heap.size, k, none⟩) (Nat.le_refl _) (.int .u64 v)
      clear hRs hR hxk hyk ev ec hrw hbw
      go_wp2_with (first | (go_at_call_of 96 (Value.slice ao xs.length cap); refine c1.mono ?_; rintro e w' ⟨rfl, hww⟩; subst hww) | (go_at_call_of 96 (Value.slice bo ys.length bcap); refine c2.mono ?_; rintro e w' ⟨rfl, hww⟩; subst hww))
      go_roundg (n - (k + 1))
      case measure => omega
      case rel => exact ⟨k + 1, _, _, by omega, rfl, by go_num, (by rw [HEC.out]), (by simp [hol]), HR2, hset.congr (fun j _ => by have := laidF_snoc (f := fun _ => 0) (off := 0) hol ((xk + yk + c) % 18446744073709551616) j; rw [Nat.zero_add] at this; exact this), hbs _⟩
    · have hkn : k = n := by omega
      have hLo : Lm out := hR.out.1
      have HV : vl out = vl xs + vl ys := summed_end hR.out (by rw [hol, hkn]; exact HFit.out)
      have hO : LS wr (some ⟨w.heap.size, 0, none⟩) n out := ⟨FRow.lrow hrw (by omega) (fun j hj => by unfold laidF; rw [if_pos (by omega), Nat.sub_zero]), by omega, fun e => by cases e⟩
      have ct := trimL_any out (some ⟨w.heap.size, 0, none⟩) n wr hO hLo (by omega)
      have hT := hO.trim hLo
      rw [HV] at ct hT
      rw [hol, hkn] at ct
      clear HV hR hrw hO hkn
      generalize vl xs + vl ys = Z at *
      go_wp2_with (go_at_call 35; refine ct.mono ?_; rintro e w1 ⟨rfl, hww⟩; subst hww)
      go_ret
      exact ⟨_, _, rfl, hT, hbw⟩
set_option maxHeartbeats 1000000 in
theorem each_sub (xs ys : List Nat) (ao bo : Option Addr) (cap bcap : Nat) (w : World) (hr : LRow w ao xs) (hs : LRow w bo ys) (hL : Lm xs) (hM : Lm ys) (n1 : xs.length ≤ 100000) (n2 : ys.length ≤ 100000) (hle : vl ys ≤ vl xs) :
    Calls Tryz.prog 118 #[.slice ao xs.length cap, .slice bo ys.length bcap, .func (.func 119) #[] #[]] w (GaveLW w (vl xs - vl ys)) := by
  obtain ⟨n, hn⟩ : ∃ n, max xs.length ys.length + 1 = n := ⟨_, rfl⟩
  have hmk := run_make_row' (P := Tryz.prog) 22 46 (.int .u64 0) 8 Tryz.underlying22 Tryz.infoU rfl .i64 .i64 n (by omega) (by omega)
  have hmx : (if xs.length < ys.length then (ys.length : Int) else (xs.length : Int)) + 1 = (n : Int) := by split <;> omega
  have hmade := FRow.made w n
  have hbm : Below w.heap.size w (w.alloc (.cells (madeCells #[.int .u64 0] n) 46)) := (Below.refl _ _).alloc (Nat.le_refl _) _
  have hA : vl xs < 2 ^ (64 * xs.length) := vl_lt hL
  have hB : vl ys < 2 ^ (64 * ys.length) := vl_lt hM
  have HFit : Hid (vl xs + vl ys < 2 ^ (64 * n)) := (show _ < _ by
    have a : 2 ^ (64 * xs.length) ≤ 2 ^ (64 * (n - 1)) := Nat.pow_le_pow_right (by omega) (by omega)
    have b : 2 ^ (64 * ys.length) ≤ 2 ^ (64 * (n - 1)) := Nat.pow_le_pow_right (by omega) (by omega)
    have e : 2 ^ (64 * (n - 1) + 1) ≤ 2 ^ (64 * n) := Nat.pow_le_pow_right (by omega) (by omega)
    rw [Nat.pow_succ] at e
    omega)
  have hx : Hid (∀ k : Nat, lmb xs (k : Int) = vl xs / 2 ^ (64 * k) % 18446744073709551616) := fun k => by unfold lmb; rw [if_neg (by omega)]; exact vl_digit hL k
  have hy : Hid (∀ k : Nat, lmb ys (k : Int) = vl ys / 2 ^ (64 * k) % 18446744073709551616) := fun k => by unfold lmb; rw [if_neg (by omega)]; exact vl_digit hM k
  have HL : Hid (vl ys ≤ vl xs ∨ True) := Or.inr trivial
  have HLE : Hid (vl ys ≤ vl xs) := hle
  have hn2 : n ≤ 100001 := by omega
  clear hA hB hn hle
  go_enter Tryz.func118, Tryz.ntmps118
  go_upto_region 2 with fail
  generalize (if xs.length < ys.length then (ys.length : Int) else (xs.length : Int)) = mm at *
  clear hmx hmk
  go_wp2
  go_loopg [8, 19] n (fun g cv i wr => ∃ (k : Nat) (out : List Nat) (c : Nat), k ≤ n ∧ g = n - k ∧ i = .int .i64 k ∧ cv = .int .u64 c ∧ out.length = k ∧ Hid (Lessed (vl xs) (vl ys) out c) ∧ FRow wr w.heap.size n (laidF (fun _ => 0) 0 k out) ∧ Below w.heap.size w wr)
  case atStart => exact ⟨0, [], 0, Nat.zero_le _, rfl, rfl, rfl, rfl, lessed_nil _ _, hmade.congr (fun j _ => (laidF_zero (fun _ => 0) 0 [] j).symm), hbm⟩
  case round =>
    obtain ⟨k, out, c, hk, hg, rfl, rfl, hol, hR, hrw, hbw⟩ := hrel
    clear hmade hbm
    by_cases hlt : k < n
    · have kc : c ≤ 1 := hR.out.2.1
      have c1 := limb_any xs ao cap (k : Int) wr (hr.below hbw)
      have c2 := limb_any ys bo bcap (k : Int) wr (hs.below hbw)
      rw [hx.out k] at c1
      rw [hy.out k] at c2
      obtain ⟨xk, hxk⟩ : ∃ xk, vl xs / 2 ^ (64 * k) % 18446744073709551616 = xk := ⟨_, rfl⟩
      obtain ⟨yk, hyk⟩ : ∃ yk, vl ys / 2 ^ (64 * k) % 18446744073709551616 = yk := ⟨_, rfl⟩
      have hxl : xk < 18446744073709551616 := by rw [← hxk]; exact Nat.mod_lt _ (by omega)
      have hyl : yk < 18446744073709551616 := by rw [← hyk]; exact Nat.mod_lt _ (by omega)
      rw [hxk] at c1
      rw [hyk] at c2
      obtain ⟨s, hs'⟩ : ∃ s, (xk + 18446744073709551616 - yk - c) % 18446744073709551616 = s := ⟨_, rfl⟩
      obtain ⟨d, hd⟩ : ∃ d, (if xk < yk + c then 1 else 0) = d := ⟨_, rfl⟩
      have hd1 : d ≤ 1 := by rw [← hd]; split <;> omega
      have hs1 : s < 18446744073709551616 := by rw [← hs']; exact Nat.mod_lt _ (by omega)
      have HR2 : Hid (Lessed (vl xs) (vl ys) (out ++ [s]) d) := lessed_step hR.out hs1 hd1 (by rw [hol, hxk, hyk, ← hs', ← hd]; split <;> omega)
      have hst := fun w' => sub64_run xk yk c kc w'
      rw [hs', hd] at hst
      have g1 := World.rowIs.cell hrw (i := k) hlt
      have g2 := World.rowIs.frozen hrw k
      have hset := hrw.set k s
      have hbs := fun v => hbw.setCell (p := ⟨w.heap.size, k, none⟩) (Nat.le_refl _) (.int .u64 v)
      clear hR hxk hyk hs' hd hrw hbw
      go_wp2_with (first | (go_at_call_of 96 (Value.slice ao xs.length cap); refine c1.mono ?_; rintro e w' ⟨rfl, hww⟩; subst hww) | (go_at_call_of 96 (Value.slice bo ys.length bcap); refine c2.mono ?_; rintro e w' ⟨rfl, hww⟩; subst hww))
      go_roundg (n - (k + 1))
      case measure => omega
      case rel => exact ⟨k + 1, _, _, by omega, rfl, by go_num, rfl, (by simp [hol]), HR2, hset.congr (fun j _ => by have := laidF_snoc (f := fun _ => 0) (off := 0) hol s j; rw [Nat.zero_add] at this; exact this), hbs _⟩
    · have hkn : k = n := by omega
      have hLo : Lm out := hR.out.1
      have HV : vl out = vl xs - vl ys := by have := lessed_end hR.out (by rw [hol, hkn]; have := HFit.out; omega) HLE.out; omega
      have hO : LS wr (some ⟨w.heap.size, 0, none⟩) n out := ⟨FRow.lrow hrw (by omega) (fun j hj => by unfold laidF; rw [if_pos (by omega), Nat.sub_zero]), by omega, fun e => by cases e⟩
      have ct := trimL_any out (some ⟨w.heap.size, 0, none⟩) n wr hO hLo (by omega)
      have hT := hO.trim hLo
      rw [HV] at ct hT
      rw [hol, hkn] at ct
      clear HV hR hrw hO hkn
      generalize vl xs - vl ys = Z at *
      go_wp2_with (go_at_call 35; refine ct.mono ?_; rintro e w1 ⟨rfl, hww⟩; subst hww)
      go_ret
      exact ⟨_, _, rfl, hT, hbw⟩
set_option maxHeartbeats 400000 in
theorem ladd_any (xs ys : List Nat) (ao bo : Option Addr) (cap bcap : Nat) (w : World) (hr : LRow w ao xs) (hs : LRow w bo ys) (hL : Lm xs) (hM : Lm ys) (n1 : xs.length ≤ 100000) (n2 : ys.length ≤ 100000) :
    Calls Tryz.prog 89 #[.slice ao xs.length cap, .slice bo ys.length bcap] w (GaveLW w (vl xs + vl ys)) := by
  have c := each_add xs ys ao bo cap bcap w hr hs hL hM n1 n2
  generalize vl xs + vl ys = Z at *
  go_enter Tryz.func89, Tryz.ntmps89
  go_wp2_with (go_at_call 118; refine c.mono ?_; rintro e w1 ⟨zo, zc, rfl, h1, h2⟩)
  go_ret
  exact ⟨_, _, rfl, h1, h2⟩
set_option maxHeartbeats 400000 in
theorem lsub_any (xs ys : List Nat) (ao bo : Option Addr) (cap bcap : Nat) (w : World) (hr : LRow w ao xs) (hs : LRow w bo ys) (hL : Lm xs) (hM : Lm ys) (n1 : xs.length ≤ 100000) (n2 : ys.length ≤ 100000) (hle : vl ys ≤ vl xs) :
    Calls Tryz.prog 90 #[.slice ao xs.length cap, .slice bo ys.length bcap] w (GaveLW w (vl xs - vl ys)) := by
  have c := each_sub xs ys ao bo cap bcap w hr hs hL hM n1 n2 hle
  clear hle
  generalize vl xs - vl ys = Z at *
  go_enter Tryz.func90, Tryz.ntmps90
  go_wp2_with (go_at_call 118; refine c.mono ?_; rintro e w1 ⟨zo, zc, rfl, h1, h2⟩)
  go_ret
  exact ⟨_, _, rfl, h1, h2⟩
end Go.Proofs.YtnclddfljghebaaGreatDoor

namespace Go.Proofs.YtnclddfljghebaaGreatDoor
open Go.RowKit

theorem cmpI_nat_lt {A B : Nat} (h : A < B) : cmpI (A : Int) (B : Int) = -1 := cmpI_lt (by omega)
theorem cmpI_nat_gt {A B : Nat} (h : B < A) : cmpI (A : Int) (B : Int) = 1 := cmpI_gt (by omega)
set_option maxHeartbeats 1000000 in
theorem lcmp_any (xs ys : List Nat) (ao bo : Option Addr) (cap bcap : Nat) (w : World) (hr : LRow w ao xs) (hs : LRow w bo ys) (hL : Lm xs) (hM : Lm ys) (n1 : xs.length ≤ 100000) (n2 : ys.length ≤ 100000) :
    Calls Tryz.prog 68 #[.slice ao xs.length cap, .slice bo ys.length bcap] w fun e w' => e = .returned (.int .i64 (cmpI (vl xs) (vl ys))) ∧ w' = w := by
  obtain ⟨n, hn⟩ : ∃ n, max xs.length ys.length = n := ⟨_, rfl⟩
  have hmx : (if xs.length < ys.length then (ys.length : Int) else (xs.length : Int)) = (n : Int) := by split <;> omega
  have hA : vl xs < 2 ^ (64 * xs.length) := vl_lt hL
  have hB : vl ys < 2 ^ (64 * ys.length) := vl_lt hM
  have a : 2 ^ (64 * xs.length) ≤ 2 ^ (64 * n) := Nat.pow_le_pow_right (by omega) (by omega)
  have b : 2 ^ (64 * ys.length) ≤ 2 ^ (64 * n) := Nat.pow_le_pow_right (by omega) (by omega)
  have HH : Hid (vl xs / 2 ^ (64 * (n - 0)) = vl ys / 2 ^ (64 * (n - 0))) := (show _ = _ by rw [Nat.sub_zero, Nat.div_eq_of_lt (by omega), Nat.div_eq_of_lt (by omega)])
  have hx : Hid (∀ k : Nat, lmb xs (k : Int) = vl xs / 2 ^ (64 * k) % 18446744073709551616) := fun k => by unfold lmb; rw [if_neg (by omega)]; exact vl_digit hL k
  have hy : Hid (∀ k : Nat, lmb ys (k : Int) = vl ys / 2 ^ (64 * k) % 18446744073709551616) := fun k => by unfold lmb; rw [if_neg (by omega)]; exact vl_digit hM k
  have hn2 : n ≤ 100000 := by omega
  clear hA hB hn a b
  go_enter Tryz.func68, Tryz.ntmps68
  go_upto_region 2 with fail
  clear hmx
  go_wp2
  go_loopg [14] n (fun g i wr => ∃ k : Nat, k ≤ n ∧ g = n - k ∧ i = .int .i64 k ∧ Hid (vl xs / 2 ^ (64 * (n - k)) = vl ys / 2 ^ (64 * (n - k))) ∧ wr = w)
  case atStart => exact ⟨0, Nat.zero_le _, rfl, rfl, HH, rfl⟩
  case round =>
    obtain ⟨k, hk, hg, rfl, hz, rfl⟩ := hrel
    clear HH
    by_cases hlt : k < n
    · obtain ⟨j, hj⟩ : ∃ j, n - 1 - k = j := ⟨_, rfl⟩
      have hst := top_step (A := vl xs) (B := vl ys) (j := j) (by rw [← hj, show n - 1 - k + 1 = n - k by omega]; exact hz.out)
      have hst2 := top_step (A := vl ys) (B := vl xs) (j := j) (by rw [← hj, show n - 1 - k + 1 = n - k by omega]; exact hz.out.symm)
      have c1 := limb_any xs ao cap (j : Int) wr hr
      have c2 := limb_any ys bo bcap (j : Int) wr hs
      rw [hx.out j] at c1
      rw [hy.out j] at c2
      obtain ⟨x, hxk⟩ : ∃ x, vl xs / 2 ^ (64 * j) % 18446744073709551616 = x := ⟨_, rfl⟩
      obtain ⟨y, hyk⟩ : ∃ y, vl ys / 2 ^ (64 * j) % 18446744073709551616 = y := ⟨_, rfl⟩
      rw [hxk] at c1 hst hst2
      rw [hyk] at c2 hst hst2
      have ej : (n : Int) - 1 - (k : Int) = (j : Int) := by omega
      have cc := fun w => cmpU_any (x : Int) (y : Int) w
      rcases Nat.lt_trichotomy x y with h | h | h
      · rw [cmpI_nat_lt h] at cc
        have HE : Hid (cmpI (vl xs) (vl ys) = -1) := (show _ = _ from cmpI_nat_lt (hst.2 h))
        clear hst hst2 hxk hyk hj hz
        go_wp2_with (first | (go_at_call 95; refine (cc _).mono ?_; rintro e w' ⟨rfl, hww⟩; subst hww) | (go_at_call_of 96 (Value.slice ao xs.length cap); refine c1.mono ?_; rintro e w' ⟨rfl, hww⟩; subst hww) | (go_at_call_of 96 (Value.slice bo ys.length bcap); refine c2.mono ?_; rintro e w' ⟨rfl, hww⟩; subst hww))
        go_ret
        exact ⟨by rw [HE.out]; rfl, rfl⟩
      · subst h
        rw [cmpI_eq rfl] at cc
        have HN : Hid (vl xs / 2 ^ (64 * (n - (k + 1))) = vl ys / 2 ^ (64 * (n - (k + 1)))) := (show _ = _ by rw [show n - (k + 1) = j by omega]; exact hst.1 rfl)
        clear hst hst2 hxk hyk hj hz
        go_wp2_with (first | (go_at_call 95; refine (cc _).mono ?_; rintro e w' ⟨rfl, hww⟩; subst hww) | (go_at_call_of 96 (Value.slice ao xs.length cap); refine c1.mono ?_; rintro e w' ⟨rfl, hww⟩; subst hww) | (go_at_call_of 96 (Value.slice bo ys.length bcap); refine c2.mono ?_; rintro e w' ⟨rfl, hww⟩; subst hww))
        go_roundg (n - (k + 1))
        case measure => omega
        case rel => exact ⟨k + 1, by omega, rfl, by go_num, HN, rfl⟩
      · rw [cmpI_nat_gt h] at cc
        have HE : Hid (cmpI (vl xs) (vl ys) = 1) := (show _ = _ from cmpI_nat_gt (hst2.2 h))
        clear hst hst2 hxk hyk hj hz
        go_wp2_with (first | (go_at_call 95; refine (cc _).mono ?_; rintro e w' ⟨rfl, hww⟩; subst hww) | (go_at_call_of 96 (Value.slice ao xs.length cap); refine c1.mono ?_; rintro e w' ⟨rfl, hww⟩; subst hww) | (go_at_call_of 96 (Value.slice bo ys.length bcap); refine c2.mono ?_; rintro e w' ⟨rfl, hww⟩; subst hww))
        go_ret
        exact ⟨by rw [HE.out]; rfl, rfl⟩
    · have hkn : k = n := by omega
      have HE : Hid (cmpI (vl xs) (vl ys) = 0) := (show _ = _ from cmpI_eq (by
        have := hz.out
        rw [hkn, Nat.sub_self, Nat.mul_zero, Nat.pow_zero, Nat.div_one, Nat.div_one] at this
        rw [this]))
      clear hz hkn
      go_wp2
      go_ret
      exact ⟨by rw [HE.out]; rfl, rfl⟩
/-- Shift, of any number. -/
theorem lshift_any (xs : List Nat) (ao : Option Addr) (cap : Nat) (s : Int) (w : World) (hr : LRow w ao xs) (hL : Lm xs) (hn : xs.length ≤ 100000) (hs1 : 0 ≤ s) (hs2 : s ≤ 1000000) :
    Calls Tryz.prog 55 #[.slice ao xs.length cap, .int .i64 s] w (GaveLW w (vl xs * 2 ^ s.toNat)) := by
  by_cases h0 : vl xs = 0
  · refine (shift_none xs ao cap s 0 (by rw [h0]; rfl) w hr hL (by omega) (by omega) (by omega) (Or.inl rfl)).mono fun e w' ⟨he, hw⟩ => ?_
    subst he hw
    rw [h0, Nat.zero_mul]
    exact ⟨none, 0, rfl, ⟨Or.inl rfl, Nat.le_refl _, fun _ => rfl⟩, Below.refl _ _⟩
  · have hb := bl_pos h0
    have hb2 : bl (vl xs) ≤ 64 * xs.length := bl_le_iff.2 (vl_lt hL)
    obtain ⟨n, hn'⟩ : ∃ n : Nat, (n : Int) = ((bl (vl xs) : Int) + s + 64 - 1) / 64 := ⟨(((bl (vl xs) : Int) + s + 64 - 1) / 64).toNat, by omega⟩
    have e1 : bl (vl xs * 2 ^ s.toNat) = bl (vl xs) + s.toNat := bl_mul_pow h0
    have e2 : nl (vl xs * 2 ^ s.toNat) = n := by unfold nl; rw [e1]; omega
    refine (shift_any xs ao cap s (bl (vl xs)) n rfl hn' w hr hL (by omega) (by omega) (by omega) (by omega) (by omega) (by omega) (by omega)).mono fun e w' ⟨he, hF, hw⟩ => ?_
    subst he
    refine ⟨some ⟨w.heap.size, 0, none⟩, n, by rw [e2], ⟨FRow.lrow hF (by rw [lo_length, e2]) (fun j hj => ?_), by rw [lo_length, e2]; exact Nat.le_refl _, fun e => by cases e⟩, hw⟩
    unfold lo
    rw [tl_getD (by rw [e2]; exact hj)]
    have := win_up (vl xs) s.toNat j
    rw [← this]
    congr 1
    omega
end Go.Proofs.YtnclddfljghebaaGreatDoor

namespace Go.Proofs.YtnclddfljghebaaGreatDoor
open Go.RowKit

theorem vF_put {m t v : Nat} {Q : Nat → Nat} (h : t < m) (h0 : Q t = 0) : vF m (fun j => if j = t then v else Q j) = vF m Q + 2 ^ (64 * t) * v := by
  induction m with
  | zero => omega
  | succ m ih =>
    rw [vF, vF]
    by_cases e : m = t
    · subst e
      rw [vF_congr (g := Q) (fun j hj => by rw [if_neg (by omega)]), if_pos rfl, h0, Nat.mul_zero, Nat.add_zero]
    · rw [ih (by omega), if_neg e]
      omega
theorem vF_three {Ln t n r : Nat} {F : Nat → Nat} (h : Ln = t + (n + r)) : vF Ln F = vF t F + 2 ^ (64 * t) * (vF n (fun j => F (t + j)) + 2 ^ (64 * n) * vF r (fun j => F (t + (n + j)))) := by
  rw [h, vF_split, vF_split]
theorem vF_laid {Ln t n r : Nat} {F : Nat → Nat} {out : List Nat} (hl : out.length = n) (h : Ln = t + (n + r)) : vF Ln (laidF F t n out) = vF t F + 2 ^ (64 * t) * (vl out + 2 ^ (64 * n) * vF r (fun j => F (t + (n + j)))) := by
  rw [vF_three h]
  have e1 : vF t (laidF F t n out) = vF t F := vF_congr fun j hj => by unfold laidF; rw [if_neg (by omega)]
  have e2 : vF n (fun j => laidF F t n out (t + j)) = vl out := by
    have := vF_list out n (by omega)
    rw [List.take_of_length_le (by omega)] at this
    rw [← this]
    exact vF_congr fun j hj => by unfold laidF; rw [if_pos (by omega), Nat.add_sub_cancel_left]
  have e3 : vF r (fun j => laidF F t n out (t + (n + j))) = vF r (fun j => F (t + (n + j))) := vF_congr fun j _ => by unfold laidF; rw [if_neg (by omega)]
  rw [e1, e2, e3]
/-- Division so far: what is left, the quotient's limbs from the highest on. -/
structure DivI (A V n Ln m k : Nat) (F Q : Nat → Nat) : Prop where
  fl : ∀ j, j < Ln → F j < 18446744073709551616
  ql : ∀ j, j < m → Q j < 18446744073709551616
  z : ∀ j, j < m - k → Q j = 0
  e : vF Ln F + V * vF m Q = A
  lt : vF Ln F < V * 2 ^ (64 * (m - k))
theorem DivI.part {A V n Ln m k t : Nat} {F Q : Nat → Nat} (h : DivI A V n Ln m k F Q) (hk : k < m) (hL : Ln = m + n) (hV : V < 2 ^ (64 * n)) (ht : t = m - 1 - k) :
    ∃ r, Ln = t + ((n + 1) + r) ∧ vF r (fun j => F (t + ((n + 1) + j))) = 0 ∧ vF (n + 1) (fun j => F (t + j)) < V * 18446744073709551616 := by
  obtain ⟨r, hr⟩ : ∃ r, Ln = t + ((n + 1) + r) := ⟨Ln - t - (n + 1), by omega⟩
  have e := vF_three (F := F) hr
  have lt := h.lt
  rw [show m - k = t + 1 by omega, pow64_succ] at lt
  have hP := Nat.two_pow_pos (64 * t)
  have e2 : 2 ^ (64 * (n + 1)) = 18446744073709551616 * 2 ^ (64 * n) := pow64_succ n
  refine ⟨r, hr, ?_, ?_⟩
  · rcases Nat.eq_zero_or_pos (vF r (fun j => F (t + ((n + 1) + j)))) with h0 | h0
    · exact h0
    · exfalso
      generalize vF r (fun j => F (t + ((n + 1) + j))) = R at *
      generalize vF (n + 1) (fun j => F (t + j)) = U at *
      have a : 2 ^ (64 * t) * (2 ^ (64 * (n + 1)) * 1) ≤ 2 ^ (64 * t) * (U + 2 ^ (64 * (n + 1)) * R) := Nat.mul_le_mul_left _ (Nat.le_trans (Nat.mul_le_mul_left _ h0) (Nat.le_add_left _ _))
      have b : V * (18446744073709551616 * 2 ^ (64 * t)) ≤ 2 ^ (64 * n) * (18446744073709551616 * 2 ^ (64 * t)) := Nat.mul_le_mul_right _ (by omega)
      have c : 2 ^ (64 * t) * (2 ^ (64 * (n + 1)) * 1) = 2 ^ (64 * n) * (18446744073709551616 * 2 ^ (64 * t)) := by rw [e2]; grind
      omega
  · generalize vF r (fun j => F (t + ((n + 1) + j))) = R at *
    generalize vF (n + 1) (fun j => F (t + j)) = U at *
    have a : 2 ^ (64 * t) * U ≤ 2 ^ (64 * t) * (U + 2 ^ (64 * (n + 1)) * R) := Nat.mul_le_mul_left _ (Nat.le_add_right _ _)
    have b : 2 ^ (64 * t) * U < 2 ^ (64 * t) * (V * 18446744073709551616) := by
      have : 2 ^ (64 * t) * (V * 18446744073709551616) = V * (18446744073709551616 * 2 ^ (64 * t)) := by grind
      omega
    exact Nat.lt_of_mul_lt_mul_left b
theorem DivI.step {A V n Ln m k t : Nat} {F Q : Nat → Nat} (h : DivI A V n Ln m k F Q) (hk : k < m) (hL : Ln = m + n) (hV0 : 0 < V) (hV : V < 2 ^ (64 * n)) (ht : t = m - 1 - k) {out : List Nat} (o1 : Lm out) (o2 : out.length = n + 1) (o3 : vl out = vF (n + 1) (fun j => F (t + j)) % V) :
    DivI A V n Ln m (k + 1) (laidF F t (n + 1) out) (fun j => if j = t then vF (n + 1) (fun j => F (t + j)) / V else Q j) := by
  obtain ⟨r, hr, hz, hU⟩ := h.part hk hL hV ht
  have e0 := vF_three (F := F) hr
  have e1 := vF_laid (F := F) o2 hr
  rw [hz, Nat.mul_zero, Nat.add_zero] at e0 e1
  rw [o3] at e1
  have hlo : vF t F < 2 ^ (64 * t) := vF_lt fun j hj => h.fl j (by omega)
  obtain ⟨d1, d2⟩ := div_place e0 hlo e1 hV0
  have hq : vF (n + 1) (fun j => F (t + j)) / V < 18446744073709551616 := Nat.div_lt_of_lt_mul hU
  refine ⟨fun j hj => ?_, fun j hj => ?_, fun j hj => ?_, ?_, ?_⟩
  · unfold laidF
    split
    · exact o1.getD _
    · exact h.fl j hj
  · by_cases c : j = t
    · rw [if_pos c]; exact hq
    · rw [if_neg c]; exact h.ql j hj
  · rw [if_neg (by omega)]; exact h.z j (by omega)
  · have a := h.e
    rw [vF_put (by omega) (h.z t (by omega)), Nat.mul_add, Nat.mul_comm (2 ^ (64 * t))]
    omega
  · rw [show m - (k + 1) = t by omega]
    exact d1
/-- All limbs are done. -/
theorem DivI.done {A V n Ln m : Nat} {F Q : Nat → Nat} (h : DivI A V n Ln m m F Q) (hV0 : 0 < V) : vF Ln F = A % V ∧ vF m Q = A / V := by
  have lt := h.lt
  rw [Nat.sub_self, Nat.mul_zero, Nat.pow_zero, Nat.mul_one] at lt
  have e := h.e
  rw [← e]
  exact ⟨by rw [Nat.add_mul_mod_self_left, Nat.mod_eq_of_lt lt], by rw [Nat.add_mul_div_left _ _ hV0, Nat.div_eq_of_lt lt, Nat.zero_add]⟩
theorem vF_win {n k v : Nat} (h : v * 2 ^ k < 2 ^ (64 * n)) : vF n (fun j => win v (64 * (j : Int) - k)) = v * 2 ^ k := by
  rw [vF_congr (g := fun j => (tl n (v * 2 ^ k)).getD j 0) (fun j hj => by rw [win_up, tl_getD hj])]
  have := vF_list (tl n (v * 2 ^ k)) n (by rw [tl_length]; omega)
  rw [List.take_of_length_le (by rw [tl_length]; omega), vl_tl, Nat.mod_eq_of_lt h] at this
  exact this
theorem DivI.start {v V n Ln m k : Nat} (_hL : Ln = m + n) (h : v * 2 ^ k < 2 ^ (64 * Ln)) (h2 : v * 2 ^ k < V * 2 ^ (64 * m)) : DivI (v * 2 ^ k) V n Ln m 0 (fun j => win v (64 * (j : Int) - k)) (fun _ => 0) :=
  ⟨fun j _ => win_lt _ _, fun _ _ => by omega, fun _ _ => rfl, by rw [vF_win h, vF_zero (fun _ _ => rfl), Nat.mul_zero, Nat.add_zero], by rw [vF_win h]; exact h2⟩
/-- Shift downwards, of any number. -/
theorem lshr_any (xs : List Nat) (ao : Option Addr) (cap k : Nat) (w : World) (hr : LRow w ao xs) (hL : Lm xs) (hn : xs.length ≤ 100000) (hk : k ≤ 100000000) :
    Calls Tryz.prog 55 #[.slice ao xs.length cap, .int .i64 (-(k : Int))] w (GaveLW w (vl xs / 2 ^ k)) := by
  have hb2 : bl (vl xs) ≤ 64 * xs.length := bl_le_iff.2 (vl_lt hL)
  by_cases h0 : bl (vl xs) ≤ k
  · have hz : vl xs / 2 ^ k = 0 := Nat.div_eq_of_lt (bl_le_iff.1 h0)
    refine (shift_none xs ao cap (-(k : Int)) (bl (vl xs)) rfl w hr hL (by omega) (by omega) (by omega) (by omega)).mono fun e w' ⟨he, hw⟩ => ?_
    subst he hw
    rw [hz]
    exact ⟨none, 0, rfl, ⟨Or.inl rfl, Nat.le_refl _, fun _ => rfl⟩, Below.refl _ _⟩
  · obtain ⟨n, hn'⟩ : ∃ n : Nat, (n : Int) = ((bl (vl xs) : Int) + (-(k : Int)) + 64 - 1) / 64 := ⟨(((bl (vl xs) : Int) + (-(k : Int)) + 64 - 1) / 64).toNat, by omega⟩
    have e1 : bl (vl xs / 2 ^ k) = bl (vl xs) - k := bl_div
    have e2 : nl (vl xs / 2 ^ k) = n := by unfold nl; rw [e1]; omega
    refine (shift_any xs ao cap (-(k : Int)) (bl (vl xs)) n rfl hn' w hr hL (by omega) (by omega) (by omega) (by omega) (by omega) (by omega) (by omega)).mono fun e w' ⟨he, hF, hw⟩ => ?_
    subst he
    refine ⟨some ⟨w.heap.size, 0, none⟩, n, by rw [e2], ⟨FRow.lrow hF (by rw [lo_length, e2]) (fun j hj => ?_), by rw [lo_length, e2]; exact Nat.le_refl _, fun e => by cases e⟩, hw⟩
    unfold lo
    rw [tl_getD (by rw [e2]; exact hj)]
    have := win_down (vl xs) k j
    rw [← this]
    congr 1
    omega
end Go.Proofs.YtnclddfljghebaaGreatDoor

namespace Go.Proofs.YtnclddfljghebaaGreatDoor
open Go.RowKit

/-- A quotient and what is left, handed back as limbs. -/
def GaveDv (w : World) (q r : Nat) (e : Ending) (w' : World) : Prop :=
  ∃ qo qc ro rc, e = .returned (.tuple #[.slice qo (nl q) qc, .slice ro (nl r) rc]) ∧ LS w' qo qc (lo q) ∧ LS w' ro rc (lo r) ∧ Below w.heap.size w w'
/-- The highest limb of a number, how far it is from its highest bit. -/
theorem top_limb {V : Nat} (h : V ≠ 0) : (lo V).getD (nl V - 1) 0 ≠ 0 ∧ (lo V).getD (nl V - 1) 0 < 18446744073709551616 ∧ 1 ≤ nl V ∧ 64 - bl ((lo V).getD (nl V - 1) 0) = 64 * nl V - bl V ∧ bl V ≤ 64 * nl V ∧ 64 * nl V < bl V + 64 := by
  have hl := lo_last h
  rw [lo_length] at hl
  have hn : 1 ≤ nl V := by have := hl.2; omega
  have e := bl_top (lo_lm V) (m := nl V - 1) (by rw [lo_length]; omega) (fun j h1 h2 => by rw [lo_length] at h2; omega) hl.1
  rw [vl_lo] at e
  have hb : bl V ≤ 64 * nl V ∧ 64 * nl V < bl V + 64 := by unfold nl; omega
  refine ⟨hl.1, (lo_lm V).getD _, hn, by omega, hb.1, hb.2⟩
set_option maxRecDepth 100000 in
set_option maxHeartbeats 1000000 in
theorem ldiv_any (xs ys : List Nat) (ao bo : Option Addr) (cap bcap : Nat) (w : World) (hr : LRow w ao xs) (hs : LS w bo bcap ys) (hL : Lm xs) (hM : Lm ys) (n1 : xs.length ≤ 40000) (n2 : ys.length ≤ 40000) (h0 : vl ys ≠ 0) :
    Calls Tryz.prog 39 #[.slice ao xs.length cap, .slice bo ys.length bcap] w (GaveDv w (vl xs / vl ys) (vl xs % vl ys)) := by
  have ct := trimL_any ys bo bcap w hs hM (by omega)
  have hT := hs.trim hM
  have nle := nlW_le hM
  obtain ⟨V, eV⟩ : ∃ V, vl ys = V := ⟨_, rfl⟩
  rw [eV] at ct hT h0 nle ⊢
  obtain ⟨t1, t2, t3, t4, t5, t6⟩ := top_limb h0
  have htl := lo_length V
  have htm := lo_lm V
  have htv := vl_lo V
  obtain ⟨n, en⟩ : ∃ n, nl V = n := ⟨_, rfl⟩
  obtain ⟨ts, ets⟩ : ∃ ts, lo V = ts := ⟨_, rfl⟩
  rw [en] at ct t1 t2 t3 t4 t5 t6 htl nle
  rw [ets] at hT t1 t2 t4 htl htm htv
  obtain ⟨up, eup⟩ : ∃ up, 64 * n - bl V = up := ⟨_, rfl⟩
  rw [eup] at t4
  have up1 : up ≤ 63 := by omega
  have cs := lshift_any ts bo bcap (up : Int) w hT.1 htm (by omega) (by omega) (by omega)
  rw [Int.toNat_natCast, htv, htl] at cs
  have eb : nl (V * 2 ^ up) = n := by unfold nl; rw [bl_mul_pow h0]; omega
  obtain ⟨S, eS⟩ : ∃ S, V * 2 ^ up = S := ⟨_, rfl⟩
  have HS1 : Hid (S < 2 ^ (64 * n)) := (show _ < _ by rw [← eS]; refine bl_le_iff.1 ?_; rw [bl_mul_pow h0]; omega)
  have HS2 : Hid (2 ^ (64 * n) ≤ 2 * S) := (show _ ≤ _ by
    have := (bl_spec (v := S) (by rw [← eS]; exact Nat.mul_ne_zero h0 (Nat.ne_of_gt (Nat.two_pow_pos up)))).1
    rw [show bl S = 64 * n by rw [← eS, bl_mul_pow h0]; omega] at this
    have e : 2 ^ (64 * n) = 2 * 2 ^ (64 * n - 1) := by rw [← Nat.pow_succ', show (64 * n - 1).succ = 64 * n by omega]
    omega)
  rw [eS] at cs eb
  rcases hT.1 with hc | ⟨b, o, rfl, hc⟩
  · omega
  have g1 := hc (n - 1) (by omega)
  obtain ⟨tp, etp⟩ : ∃ tp, ts.getD (n - 1) 0 = tp := ⟨_, rfl⟩
  rw [etp] at g1 t1 t2 t4
  have cz := lz64_any tp t2 w
  rw [t4] at cz
  have i1 : (n : Int) - 1 = ((n - 1 : Nat) : Int) := by omega
  have i2 : ((n - 1 : Nat) : Int) < (n : Int) := by omega
  have i3 : n - 1 < n := by omega
  obtain ⟨Ln, eLn⟩ : ∃ Ln, max xs.length n + 1 = Ln := ⟨_, rfl⟩
  have hmx : (if xs.length < n then (n : Int) else (xs.length : Int)) + 1 = (Ln : Int) := by split <;> omega
  have hmk := run_make_row' (P := Tryz.prog) 22 46 (.int .u64 0) 8 Tryz.underlying22 Tryz.infoU rfl .i64 .i64 Ln (by omega) (by omega)
  have HA : Hid (vl xs * 2 ^ up < 2 ^ (64 * Ln) ∧ vl xs * 2 ^ up < S * 2 ^ (64 * (Ln - n))) := (show _ ∧ _ by
    have a : vl xs < 2 ^ (64 * (Ln - 1)) := Nat.lt_of_lt_of_le (vl_lt hL) (Nat.pow_le_pow_right (by omega) (by omega))
    have c : vl xs * 2 ^ up < 2 ^ (64 * (Ln - 1)) * 2 ^ up := Nat.mul_lt_mul_of_pos_right a (Nat.two_pow_pos up)
    have d : (2 : Nat) ^ up ≤ 2 ^ 63 := Nat.pow_le_pow_right (by omega) up1
    have f : 2 ^ (64 * (Ln - 1)) * 2 ^ up ≤ 2 ^ (64 * (Ln - 1)) * 2 ^ 63 := Nat.mul_le_mul_left _ d
    have g : 2 ^ (64 * (Ln - 1)) * 2 ^ 63 ≤ 2 ^ (64 * Ln) := by rw [← Nat.pow_add]; exact Nat.pow_le_pow_right (by omega) (by omega)
    refine ⟨by omega, ?_⟩
    have k : 2 ^ (64 * n) * 2 ^ (64 * (Ln - n)) ≤ 2 * S * 2 ^ (64 * (Ln - n)) := Nat.mul_le_mul_right _ HS2.out
    rw [← Nat.pow_add, show 64 * n + 64 * (Ln - n) = 64 * (Ln - 1) + 64 by omega, Nat.pow_add, Nat.mul_assoc] at k
    generalize S * 2 ^ (64 * (Ln - n)) = Z at *
    generalize 2 ^ (64 * (Ln - 1)) = P at *
    have : P * 2 ^ 64 = 2 * (P * 2 ^ 63) := by grind
    omega)
  have HD : Hid (vl xs / V = vl xs * 2 ^ up / S ∧ vl xs % V = vl xs * 2 ^ up % S / 2 ^ up) := (show _ ∧ _ by
    rw [← eS]
    exact ⟨(Nat.mul_div_mul_right _ _ (Nat.two_pow_pos up)).symm, by rw [Nat.mul_mod_mul_right, Nat.mul_div_cancel _ (Nat.two_pow_pos up)]⟩)
  have hS0 : 0 < S := by rw [← eS]; exact Nat.mul_pos (by omega) (Nat.two_pow_pos up)
  have HU : Hid _ := eup
  have HT4 : Hid _ := t4
  have HEn : Hid _ := en
  have l1 : n ≤ Ln := by omega
  have l2 : Ln ≤ 50000 := by omega
  clear hc eup t4 en eS HS2 etp eV hs hT htv nle
  go_enter Tryz.func39, Tryz.ntmps39
  go_upto_region 4 with (first | (go_at_call 35; refine ct.mono ?_; rintro e w' ⟨rfl, hww⟩; subst w') | (go_at_call 79; refine cz.mono ?_; rintro e w' ⟨rfl, hww⟩; subst w') | (go_at_call 55; refine cs.mono ?_; rintro e w1 ⟨so, sc, rfl, hS, hb1⟩))
  clear ct cz cs g1
  have hsl := lo_length S
  have hsm := lo_lm S
  have hsv := vl_lo S
  rw [eb] at hsl
  obtain ⟨bs, ebs⟩ : ∃ bs, lo S = bs := ⟨_, rfl⟩
  rw [ebs] at hsl hsm hsv hS
  clear ebs eb
  have hap : Apt w1.heap.size so := hS.1.apt (by omega) (Nat.le_refl _)
  have hrx := hr.below hb1
  have HB1 : Hid _ := hb1
  clear hb1 hr
  have hmade := FRow.made w1 Ln
  have hbm : Below w1.heap.size w1 (w1.alloc (.cells (madeCells #[.int .u64 0] Ln) 46)) := (Below.refl _ _).alloc (Nat.le_refl _) _
  go_upto_region 5 with fail
  generalize (if xs.length < n then (n : Int) else (xs.length : Int)) = mm at *
  clear hmx hmk
  go_wp2
  go_loopg [33] Ln (fun gg i wr => ∃ k : Nat, k ≤ Ln ∧ gg = Ln - k ∧ i = .int .i64 k ∧ FRow wr w1.heap.size Ln (fun j => if j < k then win (vl xs) ((j : Int) * 64 - up) else 0) ∧ Below w1.heap.size w1 wr)
  case atStart => exact ⟨0, Nat.zero_le _, rfl, rfl, hmade.congr (fun j _ => by simp), hbm⟩
  case round =>
    obtain ⟨k, hk, hg, rfl, hrow, hb⟩ := hrel
    clear hmade hbm
    by_cases hlt : k < Ln
    · have hrr := hrx.below hb
      have hcell : wr.cell? ⟨w1.heap.size, k, none⟩ = some (.int .u64 ((if k < k then win (vl xs) ((k : Int) * 64 - up) else 0 : Nat) : Int)) := World.rowIs.cell hrow hlt
      have hfro := World.rowIs.frozen hrow k
      rw [if_neg (by omega)] at hcell
      have hset := hrow.set k (win (vl xs) ((k : Int) * 64 - up))
      have hbs := hb.setCell (p := ⟨w1.heap.size, k, none⟩) (Nat.le_refl _) (.int .u64 ((win (vl xs) ((k : Int) * 64 - up) : Nat) : Int))
      have hwd := window_any xs ao cap ((k : Int) * 64 - up) wr hrr hL (by omega) (by omega)
      clear hrow hb
      go_wp2_with (go_at_call 80; refine hwd.mono ?_; rintro e w' ⟨rfl, hww⟩; subst w')
      go_roundg (Ln - (k + 1))
      case measure => omega
      case rel =>
        refine ⟨k + 1, by omega, rfl, by go_num, hset.congr (fun j hj => ?_), hbs⟩
        by_cases hjk : j = k
        · subst hjk; rw [if_pos rfl, if_pos (by omega)]
        · rw [if_neg hjk]
          by_cases h : j < k
          · rw [if_pos h, if_pos (by omega)]
          · rw [if_neg h, if_neg (by omega)]
    · have hkn : k = Ln := by omega
      subst hkn
      clear hlt hg hk
      obtain ⟨m, em⟩ : ∃ m, k - n = m := ⟨_, rfl⟩
      have hmk := run_make_row' (P := Tryz.prog) 22 46 (.int .u64 0) 8 Tryz.underlying22 Tryz.infoU rfl .i64 .i64 m (by omega) (by omega)
      have hLm : k = m + n := by omega
      have i5 : (k : Int) - (n : Int) = (m : Int) := by omega
      have hmade2 := FRow.made wr m
      have hrow2 : FRow (wr.alloc (.cells (madeCells #[.int .u64 0] m) 46)) w1.heap.size k (fun j => win (vl xs) (64 * (j : Int) - up)) := World.rowIs.alloc (hrow.congr (fun j hj => by rw [if_pos hj, Int.mul_comm])) _
      have hb2 : Below w1.heap.size w1 (wr.alloc (.cells (madeCells #[.int .u64 0] m) 46)) := hb.alloc hb.size _
      have hgt : w1.heap.size < wr.heap.size := hrow.lt
      have ha := HA.out
      rw [em] at ha
      have hS0' : Hid (DivI (vl xs * 2 ^ up) S n k m 0 (fun j => win (vl xs) (64 * (j : Int) - up)) (fun _ => 0)) := DivI.start hLm ha.1 ha.2
      have hm5 : m ≤ 50000 := by omega
      have HLm : Hid _ := hLm
      have HEm : Hid _ := em
      clear ha hLm em hrow hb
      go_upto_region 11 with fail
      generalize wr.alloc (.cells (madeCells #[.int .u64 0] m) 46) = w3 at *
      generalize wr.heap.size = g2 at *
      clear hmk i5
      go_wp2
      go_loopg [54] m (fun gg i wr => ∃ (k2 : Nat) (F Q : Nat → Nat), k2 ≤ m ∧ gg = m - k2 ∧ i = .int .i64 k2 ∧ Hid (DivI (vl xs * 2 ^ up) S n k m k2 F Q) ∧ FRow wr w1.heap.size k F ∧ FRow wr g2 m Q ∧ Below w1.heap.size w1 wr)
      case atStart => exact ⟨0, _, _, Nat.zero_le _, rfl, rfl, hS0', hrow2, hmade2, hb2⟩
      case round =>
        clear hS0' hrow2 hmade2 hb2
        obtain ⟨k2, F, Q, hk, hg, rfl, hI, hF, hQ, hb⟩ := hrel
        by_cases hlt : k2 < m
        · obtain ⟨t, et⟩ : ∃ t, m - 1 - k2 = t := ⟨_, rfl⟩
          have kl := HLm.out
          have hsl' := hsl
          have hrb := hS.1.below hb
          obtain ⟨r, hr1, hr2, hU⟩ := hI.out.part hlt kl HS1.out et.symm
          have co := takeOff_any w1.heap.size k t sc (k - t) F bs so wr hF (fun j hj => hI.out.fl _ (by omega)) hrb hap hsm (by omega) (by omega) (by omega) (by omega) (by omega) (by rw [hsl', hsv]; exact hU)
          have hst := fun {out : List Nat} => hI.out.step (out := out) hlt kl hS0 HS1.out et.symm
          rw [hsl, hsv] at co
          have hql : vF (n + 1) (fun j => F (t + j)) / S < 18446744073709551616 := Nat.div_lt_of_lt_mul hU
          have g1 := hQ.cell (i := t) (by omega)
          have j1 : (m : Int) - 1 - (k2 : Int) = (t : Int) := by omega
          have j2 : (t : Int) < (m : Int) := by omega
          have j3 : (t : Int) + (n : Int) + 1 ≤ (k : Int) := by omega
          have j4 : (t : Int) ≤ (t : Int) + (n : Int) + 1 := by omega
          have j5 : ((t : Int) + (n : Int) + 1 - (t : Int)).toNat = n + 1 := by omega
          have j6 : ¬ k = t := by omega
          have j7 : ((t : Int) + (n : Int) + 1).toNat = t + n + 1 := by omega
          have j8 : (0 : Int) ≤ (t : Int) + (n : Int) + 1 := by omega
          have j9 : t < m := by omega
          have j10 : t + n + 1 - t = n + 1 := by omega
          have HST : Hid _ := @hst
          have HET : Hid _ := et
          clear hst hr1 hr2 hU hI et kl hsl'
          obtain ⟨q, eq⟩ : ∃ q, vF (n + 1) (fun j => F (t + j)) / S = q := ⟨_, rfl⟩
          unfold GaveO at co
          rw [eq] at co hql
          have HEQ : Hid _ := eq
          clear eq
          go_wp2_with (go_at_call 81; refine co.mono ?_; rintro e w4 ⟨out, rfl, o1, o2, o3, hF2, hk4⟩; have hQ2 := hk4.frow hQ (by omega); have g2c := hQ2.cell (i := t) (by omega); have g2f := World.rowIs.frozen hQ2 t)
          have hset := hQ2.set t q
          have hF3 := World.rowIs.setOther hF2 (a := ⟨g2, t, none⟩) (by show w1.heap.size ≠ g2; omega) (.int .u64 ((q : Nat) : Int))
          have hb4 := (hb.trans (hk4.below (Nat.le_refl _))).setCell (p := ⟨g2, t, none⟩) (by show w1.heap.size ≤ g2; omega) (.int .u64 ((q : Nat) : Int))
          have hN := HST.out o1 o2 o3
          rw [HEQ.out] at hN
          have HN : Hid _ := hN
          clear hN o1 o2 o3 hF2 hQ2 hk4 hb g2c g2f co hF hQ g1
          go_wp2
          go_roundg (m - (k2 + 1))
          case measure => omega
          case rel => exact ⟨k2 + 1, _, _, by omega, rfl, by go_num, HN.out, hF3, hset, hb4⟩
        · have hkm : k2 = m := by omega
          subst hkm
          obtain ⟨d1, d2⟩ := hI.out.done hS0
          have hlq : LS wr (some ⟨g2, 0, none⟩) k2 (toL k2 Q) := ⟨hQ.lrowL, by rw [toL_length]; exact Nat.le_refl _, fun e => by cases e⟩
          have hlf : LRow wr (some ⟨w1.heap.size, 0, none⟩) (toL k F) := hF.lrowL
          have mq : Lm (toL k2 Q) := toL_lm hI.out.ql
          have mf : Lm (toL k F) := toL_lm hI.out.fl
          have c1 := trimL_any (toL k2 Q) (some ⟨g2, 0, none⟩) k2 wr hlq mq (by rw [toL_length]; omega)
          have c2 := lshr_any (toL k F) (some ⟨w1.heap.size, 0, none⟩) k up wr hlf mf (by rw [toL_length]; omega) (by omega)
          have c3 := hlq.trim mq
          rw [toL_vl, toL_length, d2] at c1
          rw [toL_vl, d2] at c3
          rw [toL_vl, toL_length, d1] at c2
          have hd := HD.out
          rw [← hd.1] at c1 c3
          rw [← hd.2] at c2
          have hb9 := HB1.out.trans (hb.mono HB1.out.size)
          generalize vl xs / V = q at *
          generalize vl xs % V = r at *
          clear hI hF hQ hd d1 d2 mq mf hlq hlf HD
          go_wp2_with (first | (go_at_call 35; refine c1.mono ?_; rintro e w' ⟨rfl, hww⟩; subst w') | (go_at_call 55; refine c2.mono ?_; rintro e w5 ⟨ro, rc, rfl, hR5, hb5⟩))
          go_ret2
          exact ⟨_, _, _, _, rfl, c3.below hb5, hR5, hb9.trans (hb5.mono hb9.size)⟩
end Go.Proofs.YtnclddfljghebaaGreatDoor
