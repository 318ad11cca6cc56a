/- VectorTells, of any lists: both sides are one. -/
import Derived.Test.YtojdlheblnjoiaaAj
namespace Go.Proofs.Ytojdlheblnjoiaa
open Go.RowKit

theorem sameL_comm (xs ys : List Nat) : sameL ys xs = sameL xs ys := by
  by_cases hl : xs.length = ys.length
  · have hsym : ∀ a b, sameB a b = sameB b a := fun a b => by
      unfold sameB
      cases ha : nanB a <;> cases hb : nanB b
      · simp only [Bool.false_eq_true, if_false]
        by_cases e : a = b
        · subst e; rfl
        · rw [decide_eq_false e, decide_eq_false (fun h => e h.symm)]
      · simp only [Bool.false_eq_true, if_false, if_true]
        exact decide_eq_false (fun e => by subst e; rw [ha] at hb; cases hb)
      · simp only [Bool.false_eq_true, if_false, if_true]
        exact (decide_eq_false (fun e => by subst e; rw [ha] at hb; cases hb)).symm
      · rfl
    unfold sameL
    rw [hl]
    congr 1
    congr 1
    funext j
    exact hsym _ _
  · rw [sameL_len hl, sameL_len (fun h => hl h.symm)]
theorem sameB_self (a : Nat) : sameB a a = true := by unfold sameB; cases nanB a <;> simp
theorem sameL_self (xs : List Nat) : sameL xs xs = true := sameL_yes rfl fun _ _ => sameB_self _
theorem vsameNR {o : Option Nat} {r s : Nat} (h : NR o r) (g : NR o s) (w : World) : Calls Try.prog 16 #[.float .f64 r, .float .f64 s] w fun e w' => e = .returned (.bool true) ∧ w' = w := by
  have k := samef_any r s h.1 g.1 w
  rw [NR_sameB h g] at k
  exact k
set_option maxRecDepth 100000 in
set_option maxHeartbeats 2000000 in
theorem tells_law (xs ys : List Nat) (ao bo : Option Addr) (cap cap2 : Nat) (w : World) (hr : GRow w ao xs) (hs : GRow w bo ys) (hF : FW xs) (hG : FW ys) (hn : xs.length ≤ 17592186044416) (hm : ys.length ≤ 17592186044416) :
    Calls Try.prog 4 #[.slice ao xs.length cap, .slice bo ys.length cap2] w fun e w' => e = .returned (.bool true) ∧ Below w.heap.size w w' := by
  have hq2 := sameL_comm xs ys
  have hq3 := sameL_self xs
  obtain ⟨q, hq1⟩ : ∃ q, sameL xs ys = q := ⟨_, rfl⟩
  rw [hq1] at hq2
  have hms := (msL_bounds xs xs.length).2.2
  have c1 := fun w h => vmost_any xs ao cap w h hF (by omega)
  have c2 := fun w h => rmost_any xs ao cap w h hF (by omega)
  have c9 := fun w => vsameNR (o := some (msL xs xs.length).2) (r := (msL xs xs.length).2) (s := (msL xs xs.length).2) ⟨by omega, rfl⟩ ⟨by omega, rfl⟩ w
  generalize msL xs xs.length = ms at *
  obtain ⟨k, sz⟩ := ms
  dsimp only at c1 c2 c9 hms
  have HB : Below w.heap.size w w := Below.refl _ _
  go_enter Try.func4, Try.ntmps4
  go_wp2_with (first
    | (go_at_call 20; refine (c1 _ hr).mono ?_; rintro e w' ⟨rfl, h'⟩; subst w')
    | (go_at_call 21; refine (c2 _ hr).mono ?_; rintro e wz ⟨rfl, bz⟩; replace hr := hr.below bz; replace hs := hs.below bz; replace HB := HB.trans (bz.mono HB.size))
    | (go_at_call 22; refine (vsame_any _ _ _ _ _ _ _ (by assumption) (by assumption) (by assumption) (by assumption) (by omega) (by omega)).mono ?_; rintro e wz ⟨rfl, bz⟩; replace hr := hr.below bz; replace hs := hs.below bz; replace HB := HB.trans (bz.mono HB.size))
    | (go_at_call 23; refine (rsame_any _ _ _ _ _ _ _ (by assumption) (by assumption) (by assumption) (by assumption) (by omega) (by omega)).mono ?_; rintro e wz ⟨rfl, bz⟩; replace hr := hr.below bz; replace hs := hs.below bz; replace HB := HB.trans (bz.mono HB.size))
    | (go_at_call 24; refine (vnorm_any _ _ _ _ hr hF (by omega)).mono ?_; rintro e wz ⟨n1, rfl, nr1, bz⟩; replace hr := hr.below bz; replace hs := hs.below bz; replace HB := HB.trans (bz.mono HB.size))
    | (go_at_call 25; refine (rnorm_any _ _ _ _ hr hF (by omega)).mono ?_; rintro e wz ⟨n2, rfl, nr2, bz⟩; replace hr := hr.below bz; replace hs := hs.below bz; replace HB := HB.trans (bz.mono HB.size))
    | (go_at_call_of 16 (Value.float FloatKind.f64 n1); refine (vsameNR nr1 nr2 _).mono ?_; rintro e w' ⟨rfl, h'⟩; subst w')
    | (go_at_call 16; refine (c9 _).mono ?_; rintro e w' ⟨rfl, h'⟩; subst w')
    | (go_at_call 19; refine (vawake _).mono ?_; rintro e wz ⟨rfl, bz⟩; replace HB := HB.trans (bz.mono HB.size)))
  go_ret
  exact ⟨rfl, HB⟩
theorem tells_row (xs : List Nat) (ao : Option Addr) (cap : Nat) (ys : List Nat) (bo : Option Addr) (cap2 : Nat) (w : World) (hr : GRow w ao xs) (hF : FW xs) (hn : xs.length ≤ cap) (hc : cap ≤ 17592186044416) (hs : GRow w bo ys) (hG : FW ys) (hm : ys.length ≤ cap2) (hd : cap2 ≤ 17592186044416) :
    Calls Try.prog 4 #[.slice ao xs.length cap, .slice bo ys.length cap2] w fun e w' => e = .returned (.bool true) ∧ Below w.heap.size w w' :=
  tells_law xs ys ao bo cap cap2 w hr hs hF hG (by omega) (by omega)
end Go.Proofs.Ytojdlheblnjoiaa
