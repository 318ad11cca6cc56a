/- RoundTurned, whatever floats and way it is given. -/
import Derived.Test.YtalkdjgmblabgabDoorJj
import Derived.Test.YtalkdjgmblabgabDoorSh
namespace Go.Proofs.YtalkdjgmblabgabDoor
open Go.RowKit

theorem same_E {o p : Option Nat} {r s : Nat} (h : NR o r) (g : NR p s) (e : p = o) (w : World) : Calls Tryd.prog 23 #[.float .f64 r, .float .f64 s] w fun e w' => e = .returned (.bool true) ∧ w' = w := by
  subst e
  have k := samef_any r s h.1 g.1 w
  rw [NR_same h g] at k
  exact k
theorem NR_neg {o : Option Nat} {r : Nat} (h : NR o r) : NR (o.map negW) (negW r) := by
  cases o with
  | none => exact ⟨negW_lt h.1, (neg_place h.1).2.1.trans h.2⟩
  | some v =>
    have e : r = v := h.2
    subst e
    exact ⟨negW_lt h.1, rfl⟩
theorem same_N {o p : Option Nat} {r s : Nat} (h : NR o r) (g : NR p s) (e : p = o.map negW) (w : World) : Calls Tryd.prog 23 #[.float .f64 (negW r), .float .f64 s] w fun e w' => e = .returned (.bool true) ∧ w' = w :=
  same_E (NR_neg h) g e w
/-- Told as like: one and the same, or noughts. -/
def LikeO (o p : Option Nat) : Prop := p = o ∨ (NoughtB o ∧ NoughtB p)
set_option maxHeartbeats 400000 in
theorem like_any (a b : Nat) (hl : (FloatKind.f64.format.order a b == some .eq) = true ∨ ((FloatKind.f64.format.order a b == some .eq) = false ∧ (FloatKind.f64.format.order a a != some .eq) = true ∧ (FloatKind.f64.format.order b b != some .eq) = true)) (w : World) :
    Calls Tryd.prog 25 #[.float .f64 a, .float .f64 b] w fun e w' => e = .returned (.bool true) ∧ w' = w := by
  rcases hl with h | ⟨h1, h2, h3⟩
  · go_enter Tryd.func25, Tryd.ntmps25
    go_wp2
    go_ret
    exact ⟨rfl, rfl⟩
  · go_enter Tryd.func25, Tryd.ntmps25
    go_wp2
    go_ret
    exact ⟨rfl, rfl⟩
theorem ord_refl {a : Nat} (ha : a < 18446744073709551616) (hn : nanB a = false) : (FloatKind.f64.format.order a a == some .eq) = true := by
  rw [ord_eq ha ha hn hn rfl]; rfl
theorem nought_ord {o p : Option Nat} {r s : Nat} (ho : NoughtB o) (hp : NoughtB p) (h : NR o r) (g : NR p s) : (FloatKind.f64.format.order r s == some .eq) = true := by
  rcases ho with rfl | rfl <;> rcases hp with rfl | rfl
  · obtain ⟨_, rfl⟩ := h; obtain ⟨_, rfl⟩ := g; kernel_rfl
  · obtain ⟨_, rfl⟩ := h; obtain ⟨_, rfl⟩ := g; kernel_rfl
  · obtain ⟨_, rfl⟩ := h; obtain ⟨_, rfl⟩ := g; kernel_rfl
  · obtain ⟨_, rfl⟩ := h; obtain ⟨_, rfl⟩ := g; kernel_rfl
theorem like_E {o p : Option Nat} {r s : Nat} (h : NR o r) (g : NR p s) (e : LikeO o p) (w : World) : Calls Tryd.prog 25 #[.float .f64 r, .float .f64 s] w fun e w' => e = .returned (.bool true) ∧ w' = w := by
  refine like_any r s ?_ w
  rcases e with e | ⟨e1, e2⟩
  · subst e
    cases p with
    | none =>
      right
      refine ⟨?_, ?_, ?_⟩
      · rw [ord_nan h.1 g.1 (Or.inl h.2)]; rfl
      · rw [ord_self _ h.1]; exact h.2
      · rw [ord_self _ g.1]; exact g.2
    | some v =>
      have e1 : r = v := h.2
      have e2 : s = v := g.2
      subst e1
      subst e2
      cases hn : nanB s
      · left; exact ord_refl h.1 hn
      · right
        refine ⟨?_, ?_, ?_⟩
        · rw [ord_nan h.1 g.1 (Or.inl hn)]; rfl
        · rw [ord_self _ h.1]; exact hn
        · rw [ord_self _ g.1]; exact hn
  · exact Or.inl (nought_ord e1 e2 h g)
theorem like_N {o p : Option Nat} {r s : Nat} (h : NR o r) (g : NR p s) (e : LikeO (o.map negW) p) (w : World) : Calls Tryd.prog 25 #[.float .f64 (negW r), .float .f64 s] w fun e w' => e = .returned (.bool true) ∧ w' = w :=
  like_E (NR_neg h) g e w
theorem nought_neg {o : Option Nat} (h : NoughtB o) : NoughtB (o.map negW) := by
  rcases h with rfl | rfl
  · exact Or.inr (by kernel_rfl)
  · exact Or.inl (by kernel_rfl)
theorem like_of {o p : Option Nat} (h : p = o.map negW ∨ (NoughtB o ∧ NoughtB p)) : LikeO (o.map negW) p := by
  rcases h with h | ⟨h1, h2⟩
  · exact Or.inl h
  · exact Or.inr ⟨nought_neg h1, h2⟩
theorem like_it {o p : Option Nat} (h : o = p ∨ (NoughtB o ∧ NoughtB p)) : LikeO o p := by
  rcases h with h | h
  · exact Or.inl h.symm
  · exact Or.inr h
set_option maxHeartbeats 400000 in
theorem way_any (m : Int) (w : World) : Calls Tryd.prog 18 #[.int .i8 m] w fun e w' => e = .returned (.int .i8 (tmd m)) ∧ w' = w := by
  have HE : Hid (tmd m = if m = 1 then 2 else if m = 2 then 1 else m) := rfl
  by_cases h1 : m = 1
  · subst h1
    go_enter Tryd.func18, Tryd.ntmps18
    go_wp2
    go_ret
    exact ⟨rfl, rfl⟩
  · by_cases h2 : m = 2
    · subst h2
      go_enter Tryd.func18, Tryd.ntmps18
      go_wp2
      go_ret
      exact ⟨rfl, rfl⟩
    · have e1 : (m == 1) = false := by simpa using h1
      have e2 : (m == 2) = false := by simpa using h2
      go_enter Tryd.func18, Tryd.ntmps18
      go_wp2
      go_ret
      exact ⟨by rw [HE.out, if_neg h1, if_neg h2]; rfl, rfl⟩
set_option maxRecDepth 100000 in
set_option maxHeartbeats 4000000 in
theorem turned_law (a b c : Nat) (m : Int) (ha : a < 18446744073709551616) (hb : b < 18446744073709551616) (hc : c < 18446744073709551616) (w : World) (hT : TabW w) :
    Calls Tryd.prog 4 #[.float .f64 a, .float .f64 b, .float .f64 c, .int .i8 m] w fun e w' => e = .returned (.bool true) ∧ Below w.heap.size w w' := by
  have hu := run_negf
  have hna := negW_lt ha
  have hnb := negW_lt hb
  have hnc := negW_lt hc
  have ct := way_any m
  have E1 := addO_comm m ha hb
  have E2 := mulO_comm m ha hb
  have E3 := fuO_comm (a := a) (b := b) c m
  have E5 := mulO_turn m ha hb
  have E6 := divO_turn m ha hb
  have L7 := like_of (addO_turn m ha hb).1
  have L8 := like_of (fuO_turn m ha hb hc).1
  have L9 := like_it (addO_zero m ha)
  have L10 := like_it (fuO_one m ha)
  have E11 := (mulO_one m ha).symm
  have E12 := (divO_one m ha).symm
  have na := it_NR ha
  have bz := Below.refl w.heap.size w
  have key : ∀ d : Bool, (m == 1 || m == 2) = d → (d = true → addO (negW a) (negW b) (tmd m) = (addO a b m).map negW ∧ fuO (negW a) b (negW c) (tmd m) = (fuO a b c m).map negW) := fun d hd h => by
    have hm : m = 1 ∨ m = 2 := by rw [← hd] at h; simpa using h
    exact ⟨(addO_turn m ha hb).2 hm, (fuO_turn m ha hb hc).2 hm⟩
  generalize tmd m = t at *
  cases e1 : (m == 1)
  · cases e2 : (m == 2)
    · clear key
      go_enter Tryd.func4, Tryd.ntmps4
      go_wp2_with (first
        | (go_at_call 18; refine (ct _).mono ?_; rintro e w' ⟨rfl, h'⟩; subst w')
        | (go_at_call 19; refine (radd_any _ _ _ (by first | assumption | decide) (by first | assumption | decide) _).mono ?_; rintro e w1 ⟨r1, rfl, n1, b1⟩; have bz := bz.trans (b1.mono bz.size); have hT := tabW_below hT b1)
        | (go_at_call 24; refine (rsub_any _ _ _ (by assumption) (by assumption) _).mono ?_; rintro e w1 ⟨r1, rfl, n1, b1⟩; have bz := bz.trans (b1.mono bz.size); have hT := tabW_below hT b1)
        | (go_at_call 20; refine (rmul_all _ _ _ (by assumption) (by first | assumption | decide) _ hT).mono ?_; rintro e w1 ⟨r1, rfl, n1, b1⟩; have bz := bz.trans (b1.mono bz.size); have hT := tabW_below hT b1)
        | (go_at_call 21; refine (rdiv_all _ _ _ (by assumption) (by first | assumption | decide) _ hT).mono ?_; rintro e w1 ⟨r1, rfl, n1, b1⟩; have bz := bz.trans (b1.mono bz.size); have hT := tabW_below hT b1)
        | (go_at_call 22; refine (rfused_any _ _ _ _ (by assumption) (by first | assumption | decide) (by first | assumption | decide) _ hT).mono ?_; rintro e w1 ⟨r1, rfl, n1, b1⟩; have bz := bz.trans (b1.mono bz.size); have hT := tabW_below hT b1)
        | (go_at_call 23; refine (same_E (by first | assumption | exact NR_neg (by assumption)) (by assumption) (by first | rfl | assumption) _).mono ?_; rintro e w' ⟨rfl, h'⟩; subst w')
        | (go_at_call 25; refine (like_E (by first | assumption | exact NR_neg (by assumption)) (by assumption) (by assumption) _).mono ?_; rintro e w' ⟨rfl, h'⟩; subst w')
        | (go_at_call 8; refine (rawake _ hT).mono ?_; rintro e w1 ⟨rfl, b1⟩; have bz := bz.trans (b1.mono bz.size)))
      go_ret
      exact ⟨rfl, bz⟩
    · obtain ⟨E7, E8⟩ := key true (by rw [e1, e2]; rfl) rfl
      clear key
      go_enter Tryd.func4, Tryd.ntmps4
      go_wp2_with (first
        | (go_at_call 18; refine (ct _).mono ?_; rintro e w' ⟨rfl, h'⟩; subst w')
        | (go_at_call 19; refine (radd_any _ _ _ (by first | assumption | decide) (by first | assumption | decide) _).mono ?_; rintro e w1 ⟨r1, rfl, n1, b1⟩; have bz := bz.trans (b1.mono bz.size); have hT := tabW_below hT b1)
        | (go_at_call 24; refine (rsub_any _ _ _ (by assumption) (by assumption) _).mono ?_; rintro e w1 ⟨r1, rfl, n1, b1⟩; have bz := bz.trans (b1.mono bz.size); have hT := tabW_below hT b1)
        | (go_at_call 20; refine (rmul_all _ _ _ (by assumption) (by first | assumption | decide) _ hT).mono ?_; rintro e w1 ⟨r1, rfl, n1, b1⟩; have bz := bz.trans (b1.mono bz.size); have hT := tabW_below hT b1)
        | (go_at_call 21; refine (rdiv_all _ _ _ (by assumption) (by first | assumption | decide) _ hT).mono ?_; rintro e w1 ⟨r1, rfl, n1, b1⟩; have bz := bz.trans (b1.mono bz.size); have hT := tabW_below hT b1)
        | (go_at_call 22; refine (rfused_any _ _ _ _ (by assumption) (by first | assumption | decide) (by first | assumption | decide) _ hT).mono ?_; rintro e w1 ⟨r1, rfl, n1, b1⟩; have bz := bz.trans (b1.mono bz.size); have hT := tabW_below hT b1)
        | (go_at_call 23; refine (same_E (by first | assumption | exact NR_neg (by assumption)) (by assumption) (by first | rfl | assumption) _).mono ?_; rintro e w' ⟨rfl, h'⟩; subst w')
        | (go_at_call 25; refine (like_E (by first | assumption | exact NR_neg (by assumption)) (by assumption) (by assumption) _).mono ?_; rintro e w' ⟨rfl, h'⟩; subst w')
        | (go_at_call 8; refine (rawake _ hT).mono ?_; rintro e w1 ⟨rfl, b1⟩; have bz := bz.trans (b1.mono bz.size)))
      go_ret
      exact ⟨rfl, bz⟩
  · obtain ⟨E7, E8⟩ := key true (by rw [e1]; rfl) rfl
    clear key
    go_enter Tryd.func4, Tryd.ntmps4
    go_wp2_with (first
      | (go_at_call 18; refine (ct _).mono ?_; rintro e w' ⟨rfl, h'⟩; subst w')
      | (go_at_call 19; refine (radd_any _ _ _ (by first | assumption | decide) (by first | assumption | decide) _).mono ?_; rintro e w1 ⟨r1, rfl, n1, b1⟩; have bz := bz.trans (b1.mono bz.size); have hT := tabW_below hT b1)
      | (go_at_call 24; refine (rsub_any _ _ _ (by assumption) (by assumption) _).mono ?_; rintro e w1 ⟨r1, rfl, n1, b1⟩; have bz := bz.trans (b1.mono bz.size); have hT := tabW_below hT b1)
      | (go_at_call 20; refine (rmul_all _ _ _ (by assumption) (by first | assumption | decide) _ hT).mono ?_; rintro e w1 ⟨r1, rfl, n1, b1⟩; have bz := bz.trans (b1.mono bz.size); have hT := tabW_below hT b1)
      | (go_at_call 21; refine (rdiv_all _ _ _ (by assumption) (by first | assumption | decide) _ hT).mono ?_; rintro e w1 ⟨r1, rfl, n1, b1⟩; have bz := bz.trans (b1.mono bz.size); have hT := tabW_below hT b1)
      | (go_at_call 22; refine (rfused_any _ _ _ _ (by assumption) (by first | assumption | decide) (by first | assumption | decide) _ hT).mono ?_; rintro e w1 ⟨r1, rfl, n1, b1⟩; have bz := bz.trans (b1.mono bz.size); have hT := tabW_below hT b1)
      | (go_at_call 23; refine (same_E (by first | assumption | exact NR_neg (by assumption)) (by assumption) (by first | rfl | assumption) _).mono ?_; rintro e w' ⟨rfl, h'⟩; subst w')
      | (go_at_call 25; refine (like_E (by first | assumption | exact NR_neg (by assumption)) (by assumption) (by assumption) _).mono ?_; rintro e w' ⟨rfl, h'⟩; subst w')
      | (go_at_call 8; refine (rawake _ hT).mono ?_; rintro e w1 ⟨rfl, b1⟩; have bz := bz.trans (b1.mono bz.size)))
    go_ret
    exact ⟨rfl, bz⟩
end Go.Proofs.YtalkdjgmblabgabDoor
