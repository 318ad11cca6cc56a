/- Ratios: answer, Int, Right, Norm. -/
import Derived.Test.YtmcnnnmlacpppaaDoorRtb
namespace Go.Proofs.YtmcnnnmlacpppaaDoor
open Go.RowKit

/-- A box of three cells. -/
structure B3q (w : World) (b : Nat) (x y z : Value) : Prop where
  c0 : w.cell? ⟨b, 0, none⟩ = some x
  c1 : w.cell? ⟨b, 1, none⟩ = some y
  c2 : w.cell? ⟨b, 2, none⟩ = some z
  f0 : w.frozen? ⟨b, 0, none⟩ = false
  f1 : w.frozen? ⟨b, 1, none⟩ = false
  f2 : w.frozen? ⟨b, 2, none⟩ = false
  no : ∀ k, 3 ≤ k → w.cell? ⟨b, k, none⟩ = none
  lt : b < w.heap.size
theorem B3q.new (w : World) (x y z : Value) (t : TypeId) : B3q (w.alloc (.cells #[x, y, z] t)) w.heap.size x y z := by
  refine ⟨by go_simp, by go_simp, by go_simp, by go_simp, by go_simp, by go_simp, fun k hk => ?_, by simp⟩
  have : ¬ k < 3 := by omega
  simp [go_sem, this]
theorem B3q.below {w w' : World} {b : Nat} {x y z : Value} (h : B3q w b x y z) (hb : Below w.heap.size w w') : B3q w' b x y z :=
  ⟨(hb.cell (p := ⟨b, 0, none⟩) h.lt).trans h.c0, (hb.cell (p := ⟨b, 1, none⟩) h.lt).trans h.c1, (hb.cell (p := ⟨b, 2, none⟩) h.lt).trans h.c2, (hb.frozen (p := ⟨b, 0, none⟩) h.lt).trans h.f0, (hb.frozen (p := ⟨b, 1, none⟩) h.lt).trans h.f1, (hb.frozen (p := ⟨b, 2, none⟩) h.lt).trans h.f2, fun k hk => (hb.cell (p := ⟨b, k, none⟩) h.lt).trans (h.no k hk), Nat.lt_of_lt_of_le h.lt hb.size⟩
theorem B3q.alloc {w : World} {b : Nat} {x y z : Value} (h : B3q w b x y z) (o : Obj) : B3q (w.alloc o) b x y z := h.below ((Below.refl _ _).alloc (Nat.le_refl _) o)
theorem B3q.drew {w : World} {b : Nat} {x y z : Value} (h : B3q w b x y z) : B3q w.drew b x y z := ⟨h.c0, h.c1, h.c2, h.f0, h.f1, h.f2, h.no, h.lt⟩
/-- A ratio handed back, or none with an error. -/
def GaveR (w : World) (o : Option (Bool × Nat × Nat)) (er : Int) (e : Ending) (w' : World) : Prop :=
  match o with
  | some (neg, N, D) => ∃ ao cap bo bcap, e = .returned (.tuple #[.agg #[.bool neg, .slice ao (nl N) cap, .slice bo (nl D) bcap], .int .i64 0]) ∧ LS w' ao cap (lo N) ∧ LS w' bo bcap (lo D) ∧ Below w.heap.size w w'
  | none => e = .returned (.tuple #[.agg #[.bool false, .slice none 0 0, .slice none 0 0], .int .i64 er]) ∧ Below w.heap.size w w'
theorem LS.made {w : World} {ao : Option Addr} {cap : Nat} {xs : List Nat} (h : LS w ao cap xs) (o : Obj) : LS (w.alloc o) ao cap xs := h.below ((Below.refl _ _).alloc (Nat.le_refl _) o)
/-- Three cells of a box are written. -/
theorem LS.three {w0 w : World} {ao : Option Addr} {cap : Nat} {xs : List Nat} (h0 : LS w0 ao cap xs) (h : LS w ao cap xs) {g : Nat} (hg : w0.heap.size ≤ g) (a b c : Value) : LS (((w.setCell ⟨g, 0, none⟩ a).setCell ⟨g, 1, none⟩ b).setCell ⟨g, 2, none⟩ c) ao cap xs := by
  refine ⟨?_, h.2⟩
  rcases h.1 with e | ⟨q, off, rfl, hc⟩
  · exact Or.inl e
  · by_cases l0 : xs.length = 0
    · exact Or.inl l0
    · rcases h0.1 with e | ⟨b', off', e', hc'⟩
      · exact absurd e l0
      · cases e'
        have hb := World.block_lt_of_cell? w0 _ (hc' 0 (by omega))
        have hb : q < w0.heap.size := hb
        refine Or.inr ⟨q, off, rfl, fun j hj => ?_⟩
        rw [World.cell?_setCell_other _ _ _ _ (fun e => by have := congrArg Addr.block e; simp at this; omega), World.cell?_setCell_other _ _ _ _ (fun e => by have := congrArg Addr.block e; simp at this; omega), World.cell?_setCell_other _ _ _ _ (fun e => by have := congrArg Addr.block e; simp at this; omega)]
        exact hc j hj
theorem below_three {B : Nat} {w w' : World} (h : Below B w w') {g : Nat} (hg : B ≤ g) (a b c : Value) : Below B w (((w'.setCell ⟨g, 0, none⟩ a).setCell ⟨g, 1, none⟩ b).setCell ⟨g, 2, none⟩ c) :=
  ((h.setCell (p := ⟨g, 0, none⟩) hg _).setCell (p := ⟨g, 1, none⟩) hg _).setCell (p := ⟨g, 2, none⟩) hg _
/-- A box is written that is not a block of these limbs: by what the cells held. -/
theorem LS.threeB {w : World} {ao : Option Addr} {cap : Nat} {xs : List Nat} (h : LS w ao cap xs) {g : Nat} {x : Bool} {y0 z0 : Option Addr} {y1 y2 z1 z2 : Nat} (hB : B3q w g (.bool x) (.slice y0 y1 y2) (.slice z0 z1 z2)) (a b c : Value) :
    LS (((w.setCell ⟨g, 0, none⟩ a).setCell ⟨g, 1, none⟩ b).setCell ⟨g, 2, none⟩ c) ao cap xs := by
  refine ⟨?_, h.2⟩
  rcases h.1 with e | ⟨q, off, rfl, hc⟩
  · exact Or.inl e
  · by_cases l0 : xs.length = 0
    · exact Or.inl l0
    · have hq : q ≠ g := fun k => by
        subst k
        have cc := hc 0 (by omega)
        rw [Nat.add_zero] at cc
        rcases (show off = 0 ∨ off = 1 ∨ off = 2 ∨ 3 ≤ off by omega) with rfl | rfl | rfl | h2
        · rw [hB.c0] at cc; cases cc
        · rw [hB.c1] at cc; cases cc
        · rw [hB.c2] at cc; cases cc
        · rw [hB.no off h2] at cc; cases cc
      refine Or.inr ⟨q, off, rfl, fun j hj => ?_⟩
      rw [World.cell?_setCell_other _ _ _ _ (fun e => by have := congrArg Addr.block e; simp at this; omega), World.cell?_setCell_other _ _ _ _ (fun e => by have := congrArg Addr.block e; simp at this; omega), World.cell?_setCell_other _ _ _ _ (fun e => by have := congrArg Addr.block e; simp at this; omega)]
      exact hc j hj
set_option maxHeartbeats 1000000 in
theorem answer_any (neg : Bool) (N D : Nat) (ao bo : Option Addr) (cap bcap : Nat) (w : World) (h1 : LS w ao cap (lo N)) (h2 : LS w bo bcap (lo D)) (n1 : nl N ≤ 40000) (n2 : nl D ≤ 40000) :
    Calls Tryd.prog 38 #[.bool neg, .slice ao (nl N) cap, .slice bo (nl D) bcap] w (GaveR w (if nl N ≤ 256 ∧ nl D ≤ 256 then some (neg, N, D) else none) 3) := by
  have RB := B3q.new w (.bool false) (.slice none 0 0) (.slice none 0 0) 25
  have hb0 : Below w.heap.size w (w.alloc (.cells #[.bool false, .slice none 0 0, .slice none 0 0] 25)) := (Below.refl _ _).alloc (Nat.le_refl _) _
  have L1 := h1.made (.cells #[.bool false, .slice none 0 0, .slice none 0 0] 25)
  have L2 := h2.made (.cells #[.bool false, .slice none 0 0, .slice none 0 0] 25)
  by_cases hc : nl N ≤ 256 ∧ nl D ≤ 256
  · rw [if_pos hc]
    have i1 : ¬ (256 : Int) < (nl N : Int) := by omega
    have i2 : ¬ (256 : Int) < (nl D : Int) := by omega
    have c1 := lput_any (lo N) ao cap _ L1 (lo_lm N) (by rw [lo_length]; omega)
    rw [lo_length, vl_lo] at c1
    have c2 := fun w' (h : Below (w.alloc (.cells #[.bool false, .slice none 0 0, .slice none 0 0] 25)).heap.size (w.alloc (.cells #[.bool false, .slice none 0 0, .slice none 0 0] 25)) w') => lput_any (lo D) bo bcap w' (L2.below h) (lo_lm D) (by rw [lo_length]; omega)
    simp only [lo_length, vl_lo] at c2
    unfold GaveR
    go_enter Tryd.func38, Tryd.ntmps38
    go_upto_region 1 with fail
    generalize w.alloc (.cells #[.bool false, .slice none 0 0, .slice none 0 0] 25) = W0 at *
    obtain ⟨r0, r1, r2, p0, p1, p2, _, plt⟩ := id RB
    go_wp2_with (first | (go_at_call_of 51 (Value.slice bo (nl D) bcap); refine (c2 _ hb1).mono ?_; rintro e w2 ⟨bo1, bc1, rfl, hB1, hb2⟩; have RB2 := RB1.below hb2; obtain ⟨r0'', r1'', r2'', p0'', p1'', p2'', _, _⟩ := id RB2) | (go_at_call_of 51 (Value.slice ao (nl N) cap); refine c1.mono ?_; rintro e w1 ⟨ao1, ac1, rfl, hA1, hb1⟩; have RB1 := RB.below hb1; obtain ⟨r0', r1', r2', p0', p1', p2', _, _⟩ := id RB1))
    exact bodyPost_ret (v := .tuple #[.agg #[.bool neg, .slice ao1 (nl N) ac1, .slice bo1 (nl D) bc1], .int .i64 0]) (by simp [results, Tryd.results38, go_sem, r0'', r1'', r2'']) rfl ⟨ao1, ac1, bo1, bc1, rfl, (hA1.below hb2).threeB RB2 _ _ _, hB1.threeB RB2 _ _ _, below_three ((hb0.trans (hb1.mono hb0.size)).trans (hb2.mono (Nat.le_trans hb0.size hb1.size))) (Nat.le_refl _) _ _ _⟩
  · rw [if_neg hc]
    unfold GaveR
    by_cases hN : nl N ≤ 256
    · have i1 : ¬ (256 : Int) < (nl N : Int) := by omega
      have i2 : (256 : Int) < (nl D : Int) := by omega
      go_enter Tryd.func38, Tryd.ntmps38
      go_upto_region 1 with fail
      generalize w.alloc (.cells #[.bool false, .slice none 0 0, .slice none 0 0] 25) = W0 at *
      obtain ⟨r0, r1, r2, p0, p1, p2, _, plt⟩ := id RB
      go_wp2
      exact bodyPost_ret (v := .tuple #[.agg #[.bool false, .slice none 0 0, .slice none 0 0], .int .i64 3]) (by simp [results, Tryd.results38, go_sem, r0, r1, r2]) rfl ⟨rfl, below_three hb0 (Nat.le_refl _) _ _ _⟩
    · have i1 : (256 : Int) < (nl N : Int) := by omega
      go_enter Tryd.func38, Tryd.ntmps38
      go_upto_region 1 with fail
      generalize w.alloc (.cells #[.bool false, .slice none 0 0, .slice none 0 0] 25) = W0 at *
      obtain ⟨r0, r1, r2, p0, p1, p2, _, plt⟩ := id RB
      go_wp2
      exact bodyPost_ret (v := .tuple #[.agg #[.bool false, .slice none 0 0, .slice none 0 0], .int .i64 3]) (by simp [results, Tryd.results38, go_sem, r0, r1, r2]) rfl ⟨rfl, below_three hb0 (Nat.le_refl _) _ _ _⟩
/-- Is it a right ratio? -/
def rtB (neg : Bool) (xs ys : List Nat) : Bool := if xs.length = 0 then !neg && decide (ys = [1]) else fitB xs && fitB ys && (Nat.gcd (vl xs) (vl ys) == 1)
theorem lo_is_one {z : Nat} : decide (lo z = [1]) = (z == 1) := by
  rw [Bool.eq_iff_iff, decide_eq_true_iff, beq_iff_eq]
  constructor
  · intro h
    rw [← vl_lo z, h]
    rfl
  · rintro rfl
    exact (lo_one (by omega) (by omega)).2
theorem fit_pos {xs : List Nat} (h : fitB xs = true) : vl xs ≠ 0 ∧ xs.length ≤ 256 ∧ 0 < xs.length := by
  unfold fitB at h
  simp only [Bool.and_eq_true, decide_eq_true_eq] at h
  obtain ⟨⟨h1, h2⟩, h3⟩ := h
  refine ⟨fun hz => ?_, h2, h1⟩
  have := vl_take_succ (xs := xs) (k := xs.length - 1) (by omega)
  rw [List.take_of_length_le (by omega), hz] at this
  have hp := Nat.two_pow_pos (64 * (xs.length - 1))
  have : 2 ^ (64 * (xs.length - 1)) * xs.getD (xs.length - 1) 0 = 0 := by omega
  rcases Nat.mul_eq_zero.1 this with h | h
  · omega
  · exact h3 h
set_option maxHeartbeats 1000000 in
theorem rright_any (neg : Bool) (xs ys : List Nat) (ao bo : Option Addr) (cap bcap : Nat) (w : World) (h1 : LRow w ao xs) (h2 : LRow w bo ys) (hL : Lm xs) (hM : Lm ys) (hT : TabW w) :
    Calls Tryd.prog 21 #[.agg #[.bool neg, .slice ao xs.length cap, .slice bo ys.length bcap]] w fun e w' => e = .returned (.bool (rtB neg xs ys)) ∧ Below w.heap.size w w' := by
  have RB := B3q.new w (.bool neg) (.slice ao xs.length cap) (.slice bo ys.length bcap) 25
  have hb0 : Below w.heap.size w (w.alloc (.cells #[.bool neg, .slice ao xs.length cap, .slice bo ys.length bcap] 25)) := (Below.refl _ _).alloc (Nat.le_refl _) _
  have L1 := h1.below hb0
  have L2 := h2.below hb0
  have T1 := tabW_below hT hb0
  go_enter Tryd.func21, Tryd.ntmps21
  go_upto_region 1 with fail
  generalize w.alloc (.cells #[.bool neg, .slice ao xs.length cap, .slice bo ys.length bcap] 25) = W0 at *
  obtain ⟨r0, r1, r2, p0, p1, p2, _, plt⟩ := id RB
  clear hT h1 h2
  by_cases h0 : xs.length = 0
  · have HE : Hid (rtB neg xs ys = (!neg && decide (ys = [1]))) := (show _ = _ by unfold rtB; rw [if_pos h0])
    have t0 : ((xs.length : Int) == 0) = true := beq_iff_eq.2 (by omega)
    have c1 := isOne_any ys bo bcap W0 L2
    generalize decide (ys = [1]) = d at *
    cases neg
    · go_wp2_with (go_at_call 52; refine c1.mono ?_; rintro e w' ⟨rfl, hww⟩; subst w')
      go_ret
      exact ⟨retB (by rw [HE.out]; rfl), hb0⟩
    · go_wp2
      go_ret
      exact ⟨retB (by rw [HE.out]; rfl), hb0⟩
  · have t0 : ((xs.length : Int) == 0) = false := by rw [beq_eq_false_iff_ne]; omega
    have HE : Hid (rtB neg xs ys = (fitB xs && fitB ys && (Nat.gcd (vl xs) (vl ys) == 1))) := (show _ = _ by unfold rtB; rw [if_neg h0])
    have c1 := fits_any xs ao cap W0 L1
    have c2 := fits_any ys bo bcap W0 L2
    cases hx : fitB xs
    · rw [hx] at c1 HE
      go_wp2_with (go_at_call 53; refine c1.mono ?_; rintro e w' ⟨rfl, hww⟩; subst w')
      go_ret
      exact ⟨retB (by rw [HE.out]; rfl), hb0⟩
    · rw [hx] at c1 HE
      cases hy : fitB ys
      · rw [hy] at c2 HE
        go_wp2_with (first | (go_at_call_of 53 (Value.slice ao xs.length cap); refine c1.mono ?_; rintro e w' ⟨rfl, hww⟩; subst w') | (go_at_call_of 53 (Value.slice bo ys.length bcap); refine c2.mono ?_; rintro e w' ⟨rfl, hww⟩; subst w'))
        go_ret
        exact ⟨retB (by rw [HE.out]; rfl), hb0⟩
      · rw [hy] at c2 HE
        obtain ⟨x1, x2, _⟩ := fit_pos hx
        obtain ⟨y1, y2, _⟩ := fit_pos hy
        have cc := common_any xs ys ao bo cap bcap 0 W0 L1 L2 hL hM (by omega) (by omega) x1 y1 T1
        have eC : comA (vl xs) (vl ys) 0 = Nat.gcd (vl xs) (vl ys) := by unfold comA; rw [if_pos (by omega)]
        rw [eC] at cc
        obtain ⟨G, eG⟩ : ∃ G, Nat.gcd (vl xs) (vl ys) = G := ⟨_, rfl⟩
        rw [eG] at cc HE
        have co := fun w' ao' cap' (h : LRow w' ao' (lo G)) => isOne_any (lo G) ao' cap' w' h
        simp only [lo_length, lo_is_one] at co
        obtain ⟨d, ed⟩ : ∃ d, (G == 1) = d := ⟨_, rfl⟩
        rw [ed] at HE
        simp only [ed] at co
        clear hx hy eC eG ed
        go_wp2_with (first | (go_at_call_of 53 (Value.slice ao xs.length cap); refine c1.mono ?_; rintro e w' ⟨rfl, hww⟩; subst w') | (go_at_call_of 53 (Value.slice bo ys.length bcap); refine c2.mono ?_; rintro e w' ⟨rfl, hww⟩; subst w') | (go_at_call 45; refine cc.mono ?_; rintro e w3 ⟨go, gc, rfl, hG, hb3⟩) | (go_at_call 52; refine (co _ _ _ hG.1).mono ?_; rintro e w' ⟨rfl, hww⟩; subst w'))
        go_ret
        exact ⟨retB (by rw [HE.out]; rfl), hb0.trans (hb3.mono hb0.size)⟩
end Go.Proofs.YtmcnnnmlacpppaaDoor
