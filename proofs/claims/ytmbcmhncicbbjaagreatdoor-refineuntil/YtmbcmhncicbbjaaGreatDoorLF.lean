/- The document's Left: how long its numbers are; what is told where nothing is left. Plain. -/
import Derived.Test.YtmbcmhncicbbjaaGreatDoorDe0
import Derived.Test.YtmbcmhncicbbjaaGreatDoorRH
import Derived.Test.YtmbcmhncicbbjaaGreatDoorRf1
import Derived.Test.YtmbcmhncicbbjaaGreatDoorXM
import Derived.Deep.QuietTactic
import Derived.BigQuiet
namespace Go.Proofs.YtmbcmhncicbbjaaGreatDoor
open Go.RowKit

/-- A number's limbs, not older than B, not in block p. -/
def Nc2 (w : World) (D : Dy) (ao : Option Addr) (cap p B : Nat) : Prop := NS w ao cap D.mag ∧ Frs B ao ∧ ∀ b off, ao = some ⟨b, off, none⟩ → D.mag.length ≠ 0 → b ≠ p
def TM2 (D : Dy) (w : World) (u : Value) (p B : Nat) : Prop := ∃ ao cap, u = .agg #[.bool D.neg, .slice ao D.mag.length cap, .int .i64 D.exp] ∧ Nc2 w D ao cap p B
theorem Nc2.below {w w' : World} {D : Dy} {ao : Option Addr} {cap p B : Nat} (h : Nc2 w D ao cap p B) (hb : Below w.heap.size w w') : Nc2 w' D ao cap p B := ⟨h.1.below hb, h.2⟩
theorem Nc2.alloc {w : World} {D : Dy} {ao : Option Addr} {cap p B : Nat} (h : Nc2 w D ao cap p B) (o : Obj) : Nc2 (w.alloc o) D ao cap w.heap.size B := ⟨h.1.below ((Below.refl _ _).alloc (Nat.le_refl _) _), h.2.1, fun _b _off e l => Nat.ne_of_lt (by
  rcases h.1.1 with q | ⟨b', off', e', hc⟩
  · exact absurd q l
  · rw [e] at e'
    cases e'
    exact World.block_lt_of_cell? w _ (hc 0 (by omega)))⟩
theorem Nc2.put {w : World} {D : Dy} {ao : Option Addr} {cap p B : Nat} (h : Nc2 w D ao cap p B) (x y z : Value) : Nc2 (((w.setCell ⟨p, 0, none⟩ x).setCell ⟨p, 1, none⟩ y).setCell ⟨p, 2, none⟩ z) D ao cap p B :=
  ⟨⟨((h.1.1.setCell x h.2.2).setCell y h.2.2).setCell z h.2.2, h.1.2⟩, h.2⟩
theorem Nc2.new {w w' : World} {D : Dy} {ao : Option Addr} {cap p B : Nat} (h : NS w' ao cap D.mag) (hf : Frs w.heap.size ao) (hp : p < w.heap.size) (hB : B ≤ w.heap.size) : Nc2 w' D ao cap p B := ⟨h, hf.mono hB, fun b off e _ => by
  have h1 : w.heap.size ≤ b := hf _ e
  omega⟩
theorem Nc2.nb {w : World} {D : Dy} {ao : Option Addr} {cap p B : Nat} (h : Nc2 w D ao cap p B) : Nb w D ao p B := ⟨h.1.1, h.2⟩
/-- What holds of each operation once it is done: two numbers, their product, its box; the others are as they are told. -/
def LxF (V : Nat → Value) (X Y T : Dy) (B j : Nat) (w : World) (u : Value) (p : Nat) : Prop := match j with
  | 10 => TM2 X w u p B
  | 15 => TM2 Y w u p B
  | 16 => TM2 T w u p B
  | 17 => u = .pointer (some ⟨p, 0, none⟩) ∧ B ≤ p ∧ (∃ G o c, Hd w p G o c) ∧ Fz w p
  | 18 => ∃ ao cap, Hd w p T ao cap ∧ Nc2 w T ao cap p B
  | j => u = V j
structure LxS (V : Nat → Value) (X Y T : Dy) (B : Nat) (W : World) (L : Array Bool) (w : World) (v : Nat → Value) (p : Nat) : Prop where
  bel : Below W.heap.size W w
  pl : p < w.heap.size
  c : On L 18 → On L 17
  d : ∀ j, On L j → LxF V X Y T B j w (v j) p
section
variable {V : Nat → Value} {X Y T : Dy} {B : Nat} {W : World} {L : Array Bool} {w : World} {v : Nat → Value} {p : Nat}
theorem LxF.below {j : Nat} {u : Value} {w' : World} (h : LxF V X Y T B j w u p) (hb : Below w.heap.size w w') : LxF V X Y T B j w' u p := by
  unfold LxF at h ⊢
  split at h <;> first | exact h | (obtain ⟨ao, cap, e, hn⟩ := h; exact ⟨ao, cap, e, hn.below hb⟩) | (obtain ⟨ao, cap, e, hn⟩ := h; exact ⟨ao, cap, e.below hb, hn.below hb⟩) | (obtain ⟨h1, h2, ⟨G, o, c, h3⟩, h4⟩ := h; exact ⟨h1, h2, ⟨G, o, c, h3.below hb⟩, h4.below (World.block_lt_of_cell? w _ h3.c0) hb⟩)
theorem LxF.alloc {j : Nat} {u : Value} (h : LxF V X Y T B j w u p) (h17 : j ≠ 17) (h18 : j ≠ 18) (o : Obj) : LxF V X Y T B j (w.alloc o) u w.heap.size := by
  unfold LxF at h ⊢
  split at h <;> first | exact h | (obtain ⟨ao, cap, e, hn⟩ := h; exact ⟨ao, cap, e, hn.alloc o⟩) | (exact absurd rfl h17) | (exact absurd rfl h18)
theorem LxF.put {j : Nat} {u : Value} (h : LxF V X Y T B j w u p) (h18 : j ≠ 18) (E : Dy) (a : Option Addr) (c c' : Nat) (hN : Nc2 w E a c' p B) : LxF V X Y T B j (((w.setCell ⟨p, 0, none⟩ (.bool E.neg)).setCell ⟨p, 1, none⟩ (.slice a E.mag.length c)).setCell ⟨p, 2, none⟩ (.int .i64 E.exp)) u p := by
  unfold LxF at h ⊢
  split at h <;> first | exact h | (obtain ⟨ao, cap, e, hn⟩ := h; exact ⟨ao, cap, e, hn.put _ _ _⟩) | (exact absurd rfl h18) | (obtain ⟨h1, h2, ⟨G, o, c', h3⟩, f0, f1, f2⟩ := h; exact ⟨h1, h2, ⟨E, a, c, hd_put h3 hN.nb⟩, by simp [go_sem, f0], by simp [go_sem, f1], by simp [go_sem, f2]⟩)
theorem LxS.step (h : LxS V X Y T B W L w v p) {i : Nat} {w' : World} {u : Value} (hi : i < L.size) (h18 : i ≠ 18) (hb : Below w.heap.size w w') (hu : LxF V X Y T B i w' u p) : LxS V X Y T B W (L.setIfInBounds i true) w' (upd v i u) p where
  bel := h.bel.trans (hb.mono h.bel.size)
  pl := Nat.lt_of_lt_of_le h.pl hb.size
  c := fun g => (on_set hi 17).2 (Or.inr (h.c (((on_set hi 18).1 g).resolve_left (fun e => h18 e.symm))))
  d := fun j g => by
    by_cases e : j = i
    · subst e; rw [upd_at]; exact hu
    · rw [upd_ne v u e]; exact (h.d j (((on_set hi j).1 g).resolve_left e)).below hb
theorem LxS.stepA (h : LxS V X Y T B W L w v p) (hi : 17 < L.size) (hn : ¬ On L 17) (hB : B ≤ w.heap.size) (t : TypeId) : LxS V X Y T B W (L.setIfInBounds 17 true) (w.alloc (.cells #[.bool false, .slice none 0 0, .int .i64 0] t)) (upd v 17 (.pointer (some ⟨w.heap.size, 0, none⟩))) w.heap.size where
  bel := h.bel.alloc h.bel.size _
  pl := by go_simp
  c := fun _ => (on_set hi 17).2 (Or.inl rfl)
  d := fun j g => by
    by_cases e : j = 17
    · subst e; rw [upd_at]
      refine ⟨rfl, hB, ⟨dy0, none, 0, ⟨by go_simp; rfl, by go_simp; rfl, by go_simp; rfl, Or.inl rfl⟩⟩, by go_simp, by go_simp, by go_simp⟩
    · rw [upd_ne v _ e]
      have g' := ((on_set hi j).1 g).resolve_left e
      exact (h.d j g').alloc e (fun e2 => hn (h.c (e2 ▸ g'))) _
theorem LxS.stepS (h : LxS V X Y T B W L w v p) (hi : 18 < L.size) (h17 : On L 17) (hW : W.heap.size ≤ p) {ao : Option Addr} {c : Nat} (hN : Nc2 w T ao c p B) (u : Value) : LxS V X Y T B W (L.setIfInBounds 18 true) (((w.setCell ⟨p, 0, none⟩ (.bool T.neg)).setCell ⟨p, 1, none⟩ (.slice ao T.mag.length c)).setCell ⟨p, 2, none⟩ (.int .i64 T.exp)) (upd v 18 u) p where
  bel := ((h.bel.setCell hW _).setCell hW _).setCell hW _
  pl := by simp [World.setCell]; exact h.pl
  c := fun _ => (on_set hi 17).2 (Or.inr h17)
  d := fun j g => by
    by_cases e : j = 18
    · subst e
      obtain ⟨_, _, ⟨G, o, c', h3⟩, _⟩ := h.d 17 h17
      exact ⟨ao, c, hd_put h3 hN.nb, hN.put _ _ _⟩
    · rw [upd_ne v _ e]
      have g' := ((on_set hi j).1 g).resolve_left e
      exact (h.d j g').put e T ao c c hN
end
end Go.Proofs.YtmbcmhncicbbjaaGreatDoor

namespace Go.Proofs.YtmbcmhncicbbjaaGreatDoor
open Go.RowKit

theorem nan_ne0 {x : Nat} (hx : x < 18446744073709551616) (h : nanB x = true) : (FloatKind.f64.format.order x 0 != some .eq) = true := by
  rw [ord_nan hx (by omega) (Or.inl h)]; rfl
set_option maxRecDepth 100000 in
set_option maxHeartbeats 4000000 in
theorem rfinite14 (xs : List Nat) (ao : Option Addr) (cap : Nat) (w : World) (hr : GRow w ao xs) (hF : FW xs) (hn : xs.length ≤ 1125899906842624) :
    Calls Tryz.prog 28 #[.slice ao xs.length cap] w fun e w' => e = .returned (.bool (xs.all finB)) ∧ Below w.heap.size w w' := by
  go_enter Tryz.func28, Tryz.ntmps28
  go_wp2
  go_loopg [3] xs.length (fun g i wr => ∃ k : Nat, k ≤ xs.length ∧ g = xs.length - k ∧ i = .int .i64 k ∧ Hid (∀ j, j < k → finB (xs.getD j 0) = true) ∧ Below w.heap.size w wr)
  case atStart => exact ⟨0, Nat.zero_le _, rfl, rfl, fun j h => by omega, Below.refl _ _⟩
  case round =>
    obtain ⟨k, hk, hg, rfl, hz, hB⟩ := hrel
    have HG : Hid (gk = xs.length - k) := hg
    clear hg
    by_cases hlt : k < xs.length
    · rcases (hr.below hB) with h | ⟨b, off, rfl, hc⟩
      · omega
      · have g1 := hc k hlt
        have hx := hF.at hlt
        obtain ⟨x, ex⟩ : ∃ x, xs.getD k 0 = x := ⟨_, rfl⟩
        rw [ex] at g1 hx
        have i1 : (k : Int) < (xs.length : Int) := by omega
        cases fx : finB x
        · have HE : Hid (xs.all finB = false) := (show xs.all finB = false from all_bad hlt (by rw [ex]; exact fx))
          have hm := run_nan (P := Tryz.prog) .sub (Or.inl rfl) 48 x x (sub_inf hx fx)
          have ho : ∀ w, (FloatKind.f64.format.order (nanW x x w) 0 != some .eq) = true := fun w => nan_ne0 (nanW_nan x x w).2 (nanW_nan x x w).1
          clear hc ex hz
          go_upto_region 4 with fail
          go_cut [19] from 10 to 19 (fun s19 wx => s19 = .bool true ∧ Below w.heap.size w wx)
          case first =>
            go_region
            all_goals
              go_wp2
              go_meet
              case rel => exact ⟨by simp, by first | exact hB.drew | exact hB.drew.drew⟩
          case rest =>
            obtain ⟨rfl, b2⟩ := hcut
            go_wp2
            go_ret
            exact ⟨by rw [HE.out]; rfl, b2⟩
        · have hm := fun w => run_float_arith (P := Tryz.prog) w .sub 48 .f64 x x 0 (sub_self hx fx)
          have HZ : Hid (∀ j, j < k + 1 → finB (xs.getD j 0) = true) := fun j h => by
            by_cases e : j = k
            · rw [e, ex]; exact fx
            · exact hz.out j (by omega)
          have ho : (FloatKind.f64.format.order 0 0 != some .eq) = false := by kernel_rfl
          clear hc ex hz
          go_wp2
          go_quiet (fail)
          go_wp2
          go_roundg (xs.length - (k + 1))
          case measure => rw [HG.out]; omega
          case rel => exact ⟨k + 1, by omega, rfl, by go_num, HZ, below_drewN hB _⟩
    · have HE : Hid (xs.all finB = true) := (show xs.all finB = true from all_good fun i hi => hz.out i (by omega))
      have i1 : ¬ (k : Int) < (xs.length : Int) := by omega
      clear hz
      go_wp2
      go_ret
      exact ⟨by rw [HE.out]; rfl, hB⟩
set_option maxHeartbeats 1000000 in
theorem dfit_any14 (r c : Int) (ao xo bo : Option Addr) (mn cap xn xc bn bc : Nat) (w : World) :
    Calls Tryz.prog 27 #[mxV r c ao mn cap, .slice xo xn xc, .slice bo bn bc] w fun e w' => e = .returned (.bool (fit14 r c mn xn bn)) ∧ Below w.heap.size w w' := by
  have cr := fun W => rright_any r c ao mn cap W
  have B0 := below_one w (.cells #[.int .i64 r, .int .i64 c, .slice ao mn cap] 24)
  have M0 := B3.new w (.int .i64 r) (.int .i64 c) (.slice ao mn cap) 24
  unfold fit14
  cases q : rightM r c mn
  · rw [q] at cr
    go_enter Tryz.func27, Tryz.ntmps27
    go_wp2_with (go_at_call 51; refine (cr _).mono ?_; rintro e w1 ⟨rfl, b1⟩)
    go_ret
    exact ⟨rfl, B0.trans (b1.mono B0.size)⟩
  · rw [q] at cr
    by_cases h : (xn : Int) = c
    · have e1 : ((xn : Int) == c) = true := by simp [h]
      rw [decide_eq_true h]
      by_cases h2 : (bn : Int) = r
      · have e2 : ((bn : Int) == r) = true := by simp [h2]
        rw [decide_eq_true h2]
        clear h h2
        go_enter Tryz.func27, Tryz.ntmps27
        go_wp2_with (go_at_call 51; refine (cr _).mono ?_; rintro e w1 ⟨rfl, b1⟩; obtain ⟨m0, m1, m2, _⟩ := M0.below b1)
        go_ret
        exact ⟨rfl, B0.trans (b1.mono B0.size)⟩
      · have e2 : ((bn : Int) == r) = false := by simp [h2]
        rw [decide_eq_false h2]
        clear h h2
        go_enter Tryz.func27, Tryz.ntmps27
        go_wp2_with (go_at_call 51; refine (cr _).mono ?_; rintro e w1 ⟨rfl, b1⟩; obtain ⟨m0, m1, m2, _⟩ := M0.below b1)
        go_ret
        exact ⟨rfl, B0.trans (b1.mono B0.size)⟩
    · have e1 : ((xn : Int) == c) = false := by simp [h]
      rw [decide_eq_false h]
      clear h
      go_enter Tryz.func27, Tryz.ntmps27
      go_wp2_with (go_at_call 51; refine (cr _).mono ?_; rintro e w1 ⟨rfl, b1⟩; obtain ⟨m0, m1, m2, _⟩ := M0.below b1)
      go_ret
      exact ⟨rfl, B0.trans (b1.mono B0.size)⟩
end Go.Proofs.YtmbcmhncicbbjaaGreatDoor

namespace Go.Proofs.YtmbcmhncicbbjaaGreatDoor
open Go.RowKit

theorem lI_lt {row xs : List Nat} {b : Nat} (hr : row.all finB = true) (hx : xs.all finB = true) (hb : finB b = true) (hl : xs.length = row.length) {V : Nat} (hV : V = 2098) : ∀ k, k ≤ row.length → (lI row xs b k).natAbs ≤ (k + 1) * 2 ^ (V + V)
  | 0, _ => by
    have h1 := vI_lt hb hV
    obtain ⟨E, hE⟩ : ∃ E, E = 1074 := ⟨_, rfl⟩
    have h2 : (lI row xs b 0).natAbs = (vI b).natAbs * 2 ^ E := by
      rw [lI, ← hE, Int.natAbs_mul, Int.natAbs_pow, show (2 : Int).natAbs = 2 from rfl]
    have h3 : (2 : Nat) ^ E ≤ 2 ^ V := Nat.pow_le_pow_right (by omega) (by omega)
    rw [h2, Nat.zero_add, Nat.one_mul, Nat.pow_add]
    exact Nat.mul_le_mul (Nat.le_of_lt h1) h3
  | k + 1, hk => by
    have ih := lI_lt hr hx hb hl hV k (by omega)
    have f1 : finB (row.getD k 0) = true := fin_at hr (by omega)
    have f2 : finB (xs.getD k 0) = true := fin_at hx (by omega)
    have h1 := vI_lt f1 hV
    have h2 := vI_lt f2 hV
    have h3 : (vI (row.getD k 0) * vI (xs.getD k 0)).natAbs ≤ 2 ^ (V + V) := by
      rw [Int.natAbs_mul, Nat.pow_add]
      exact Nat.mul_le_mul (Nat.le_of_lt h1) (Nat.le_of_lt h2)
    have e : lI row xs b (k + 1) = lI row xs b k - vI (row.getD k 0) * vI (xs.getD k 0) := rfl
    rw [e]
    have e2 : (k + 1 + 1) * 2 ^ (V + V) = (k + 1) * 2 ^ (V + V) + 2 ^ (V + V) := by rw [Nat.add_mul (k + 1), Nat.one_mul]
    rw [e2]
    generalize vI (row.getD k 0) * vI (xs.getD k 0) = p at *
    generalize lI row xs b k = q at *
    generalize (k + 1) * 2 ^ (V + V) = A at *
    generalize 2 ^ (V + V) = B at *
    omega
theorem lfX_len {row xs : List Nat} {b : Nat} (hr : row.all finB = true) (hx : xs.all finB = true) (hb : finB b = true) (hl : xs.length = row.length) (hn : row.length ≤ 48) {k : Nat} (hk : k ≤ row.length) {z : Dy} (hz : LfX row xs b k z) : z.mag.length ≤ 80 ∧ bl (vl z.mag) ≤ 5000 := by
  obtain ⟨_, h2, _, _, h5⟩ := hz
  obtain ⟨V, hV⟩ : ∃ V, V = 2098 := ⟨_, rfl⟩
  have hb1 := lI_lt hr hx hb hl hV k hk
  have hq : (lI row xs b k).natAbs < 2 ^ (V + V + 6) := by
    rw [Nat.pow_add 2 (V + V) 6, Nat.mul_comm]
    refine Nat.lt_of_le_of_lt hb1 ?_
    exact Nat.mul_lt_mul_of_pos_right (show k + 1 < 2 ^ 6 by omega) (Nat.two_pow_pos _)
  have h7 : 1 ≤ ((2 : Int) ^ (z.exp + 2148).toNat).natAbs := by
    have := pow_pos_int (z.exp + 2148).toNat
    omega
  have hv : vl z.mag < 2 ^ (V + V + 6) := by
    rw [← h5, Int.natAbs_mul, sv_abs] at hq
    have h8 := Nat.mul_le_mul_left (vl z.mag) h7
    omega
  have this : bl (vl z.mag) ≤ 5000 := by
    have h1 : bl (vl z.mag) ≤ V + V + 6 := bl_le_iff.2 hv
    omega
  refine ⟨?_, this⟩
  rw [h2, lo_length]
  unfold nl
  omega
theorem lf_none {row xs : List Nat} {b : Nat} (hr : row.all finB = true) (hl : xs.length = row.length) {z : Dy} (hz : LfX row xs b row.length z) (h0 : vl z.mag = 0) : lfW row xs b = 0 := by
  have hX : lfW row xs b = rndW (dz (lI row xs b row.length)) 0 := by unfold lfW dxW; rw [lI_all hr hl]
  have hs : sv z = 0 := by unfold sv; rw [h0]; cases z.neg <;> rfl
  have e0 : rndW (dz 0) 0 = 0 := by kernel_rfl
  rw [hX, ← hz.2.2.2.2, hs, Int.zero_mul]
  exact e0
theorem lt_pow14 {U Z K : Nat} (h : U < 2 ^ Z) (hz : Z ≤ K) : U < 2 ^ K := Nat.lt_of_lt_of_le h (Nat.pow_le_pow_right (by omega) hz)
theorem rnd_lf {row xs : List Nat} {b : Nat} (hr : row.all finB = true) (hx : xs.all finB = true) (hb : finB b = true) (hl : xs.length = row.length) (hn : row.length ≤ 48) (z : Dy) (hz : LfX row xs b row.length z) (ao : Option Addr) (cap : Nat) (w : World) (hN : NS w ao cap z.mag) :
    Calls Tryz.prog 33 #[.agg #[.bool z.neg, .slice ao z.mag.length cap, .int .i64 z.exp], .int .i8 0] w fun e w' => e = .returned (.float .f64 (lfW row xs b)) ∧ Below w.heap.size w w' := by
  obtain ⟨l1, l2⟩ := lfX_len hr hx hb hl hn (Nat.le_refl _) hz
  by_cases h0 : vl z.mag = 0
  · rw [lf_none hr hl hz h0]
    exact rounded_zero z.neg z.mag z.exp ao cap 0 w hN hz.1 (by omega) h0
  · obtain ⟨U, t, u1, u2, hC⟩ := rounded_all z hz.1 (by omega) (by have := hz.2.2.1; omega) (by have := hz.2.2.2.1; omega) 0 ao cap w hN h0
    obtain ⟨Z, hZ⟩ : ∃ Z, Z = 5000 := ⟨_, rfl⟩
    rw [← hZ] at l2
    have hbl := bl_le_iff.1 l2
    have hU : U < 2 ^ Z := by
      have : U * 1 ≤ U * 2 ^ t := Nat.mul_le_mul_left _ (Nat.two_pow_pos t)
      omega
    have ht : t < Z := by
      refine Nat.lt_of_not_le fun c => ?_
      have h1 : (2 : Nat) ^ Z ≤ 2 ^ t := Nat.pow_le_pow_right (by omega) c
      have h2 : 1 * 2 ^ t ≤ U * 2 ^ t := Nat.mul_le_mul_right _ (by omega)
      omega
    obtain ⟨K, hK⟩ : ∃ K, K = 16384 := ⟨_, rfl⟩
    have hUK : U < 2 ^ K := lt_pow14 hU (by omega)
    rw [hK] at hUK
    rw [← lf_round hr hl hz u1 u2 hUK (by omega)]
    exact hC
end Go.Proofs.YtmbcmhncicbbjaaGreatDoor
