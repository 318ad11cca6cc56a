/- What size, apart, atMost of layer 6's laws answer; sum where a float is not finite. -/
import Derived.Test.YtfhejejfeffdcaaDoorLo9
import Derived.Test.YtfhejejfeffdcaaDoorMop
namespace Go.Proofs.YtfhejejfeffdcaaDoor
open Go.RowKit

theorem fd_sign {E : Dy} {X : Int} (h : Fd E X) : (signD E).1 = sgI X ∧ (signD E).2 = 0 := by
  unfold signD
  rw [if_pos h.1]
  refine ⟨?_, rfl⟩
  have e := h.2.2
  unfold qd at e
  rw [← sgI_pw X puH, ← e, sgI_pw]
theorem fd_trn {E : Dy} {X : Int} (h : Fd E X) : Fd (trn E) (-X) := ⟨trn_right h.1, h.2.1, by rw [trn_qd h.1, h.2.2, Int.neg_mul]⟩
/-- Two boxes of a function's own: its argument, and what it answers. -/
structure TwoS (w wr : World) (E : Dy) (a : Option Addr) (c : Nat) : Prop where
  bel : Below w.heap.size w wr
  h0 : Hd wr w.heap.size E a c
  z0 : Fzr wr w.heap.size
  h1 : Hd wr (w.heap.size + 1) dy0 none 0
  z1 : Fzr wr (w.heap.size + 1)
theorem TwoS.top {w wr : World} {E : Dy} {a : Option Addr} {c : Nat} (h : TwoS w wr E a c) : w.heap.size + 1 < wr.heap.size := World.block_lt_of_cell? wr _ h.h1.c0
theorem TwoS.below {w wr w2 : World} {E : Dy} {a : Option Addr} {c : Nat} (h : TwoS w wr E a c) (hb : Below wr.heap.size wr w2) : TwoS w w2 E a c := by
  have l := h.top
  exact ⟨h.bel.trans (hb.mono h.bel.size), h.h0.below hb, h.z0.below (by omega) hb, h.h1.below hb, h.z1.below l hb⟩
theorem TwoS.new {w : World} {E : Dy} {a : Option Addr} {c : Nat} (hr : LRow w a E.mag) : TwoS w ((w.alloc (.cells #[.bool E.neg, .slice a E.mag.length c, .int .i64 E.exp] 32)).alloc (.cells #[.bool false, .slice none 0 0, .int .i64 0] 32)) E a c := by
  have a1 := (Hd.new (w := w) (d := E) (ao := a) (cap := c) hr).below (bal _ (.cells #[.bool false, .slice none 0 0, .int .i64 0] 32))
  have b1 := (fz_new w (.bool E.neg) (.slice a E.mag.length c) (.int .i64 E.exp)).below (by simp) (bal _ (.cells #[.bool false, .slice none 0 0, .int .i64 0] 32))
  have a2 := Hd.new (w := w.alloc (.cells #[.bool E.neg, .slice a E.mag.length c, .int .i64 E.exp] 32)) (d := dy0) (ao := none) (cap := 0) (Or.inl rfl)
  have b2 := fz_new (w.alloc (.cells #[.bool E.neg, .slice a E.mag.length c, .int .i64 E.exp] 32)) (.bool false) (.slice none 0 0) (.int .i64 0)
  have e1 : (w.alloc (.cells #[.bool E.neg, .slice a E.mag.length c, .int .i64 E.exp] 32)).heap.size = w.heap.size + 1 := by go_simp
  rw [e1] at a2 b2
  exact ⟨bth3 (bal _ _) (bal _ _), a1, b1, a2, b2⟩
theorem TwoS.put {w wr : World} {E F : Dy} {a b : Option Addr} {c d : Nat} (h : TwoS w wr E a c) (hr : LRow wr b F.mag) (hf : Frs (w.heap.size + 2) b) : TwoS w (((wr.setCell ⟨w.heap.size, 0, none⟩ (.bool F.neg)).setCell ⟨w.heap.size, 1, none⟩ (.slice b F.mag.length d)).setCell ⟨w.heap.size, 2, none⟩ (.int .i64 F.exp)) F b d := by
  exact ⟨((h.bel.setCell (p := ⟨w.heap.size, 0, none⟩) (Nat.le_refl _) _).setCell (p := ⟨w.heap.size, 1, none⟩) (Nat.le_refl _) _).setCell (p := ⟨w.heap.size, 2, none⟩) (Nat.le_refl _) _,
    put3n h.h0 hr (fun b' off e _ => by have := hf _ e; simp only at this; omega), h.z0.set _ _ _ _, h.h1.oth (by omega) _ _ _ (Or.inl rfl), h.z1.set _ _ _ _⟩
theorem set_ret {w wr : World} {F : Dy} {b : Option Addr} {d : Nat} (hb : Below w.heap.size w wr) : Below w.heap.size w (((wr.setCell ⟨w.heap.size + 1, 0, none⟩ (.bool F.neg)).setCell ⟨w.heap.size + 1, 1, none⟩ (.slice b F.mag.length d)).setCell ⟨w.heap.size + 1, 2, none⟩ (.int .i64 F.exp)) :=
  ((hb.setCell (p := ⟨w.heap.size + 1, 0, none⟩) (Nat.le_succ _) _).setCell (p := ⟨w.heap.size + 1, 1, none⟩) (Nat.le_succ _) _).setCell (p := ⟨w.heap.size + 1, 2, none⟩) (Nat.le_succ _) _
theorem row_ret {w wr : World} {F : Dy} {b : Option Addr} {d : Nat} (hr : LRow wr b F.mag) (hn : ∀ b' off, b = some ⟨b', off, none⟩ → F.mag.length ≠ 0 → b' ≠ w.heap.size + 1) : LRow (((wr.setCell ⟨w.heap.size + 1, 0, none⟩ (.bool F.neg)).setCell ⟨w.heap.size + 1, 1, none⟩ (.slice b F.mag.length d)).setCell ⟨w.heap.size + 1, 2, none⟩ (.int .i64 F.exp)) b F.mag := ((hr.setCell _ hn).setCell _ hn).setCell _ hn
/-- A dyad of the number X handed back, and true. -/
def GaveY (w : World) (X : Int) (e : Ending) (w' : World) : Prop :=
  ∃ (F : Dy) (b : Option Addr) (d : Nat), e = .returned (.tuple #[.agg #[.bool F.neg, .slice b F.mag.length d, .int .i64 F.exp], .bool true]) ∧ Fd F X ∧ LRow w' b F.mag ∧ Frs w.heap.size b ∧ Below w.heap.size w w'
/-- The same; its limbs are the argument's, or new. -/
def GaveA1 (w : World) (a : Option Addr) (X : Int) (e : Ending) (w' : World) : Prop :=
  ∃ (F : Dy) (b : Option Addr) (d : Nat), e = .returned (.tuple #[.agg #[.bool F.neg, .slice b F.mag.length d, .int .i64 F.exp], .bool true]) ∧ Fd F X ∧ LRow w' b F.mag ∧ (b = a ∨ Frs w.heap.size b) ∧ Below w.heap.size w w'
theorem first_not (xs : List Nat) : ∀ n, n ≤ xs.length → (∀ j, j < n → finB (xs.getD j 0) = true) ∨ ∃ K, K < n ∧ finB (xs.getD K 0) = false ∧ ∀ j, j < K → finB (xs.getD j 0) = true
  | 0, _ => Or.inl (fun j h => by omega)
  | n + 1, h => by
    rcases first_not xs n (by omega) with g | ⟨K, k1, k2, k3⟩
    · cases f : finB (xs.getD n 0)
      · exact Or.inr ⟨n, by omega, f, g⟩
      · exact Or.inl (fun j hj => by
          by_cases e : j = n
          · rw [e]; exact f
          · exact g j (by omega))
    · exact Or.inr ⟨K, by omega, k2, k3⟩
theorem lsum_not (xs : List Nat) (ao : Option Addr) (cap : Nat) (w : World) (hT : TabW w) (hr : GRow w ao xs) (hF : FW xs) (hn : xs.length ≤ 1125899906842624) (hf : xs.all finB = false) :
    Calls Tryd.prog 6 #[.slice ao xs.length cap] w (GaveNo w) := by
  rcases first_not xs xs.length (Nat.le_refl _) with g | ⟨K, k1, k2, k3⟩
  · exfalso
    have : xs.all finB = true := by
      rw [List.all_eq_true]
      intro x hx
      obtain ⟨j, hj, e⟩ := List.mem_iff_getElem.1 hx
      have := g j hj
      rw [getD_at hj, e] at this
      exact this
    rw [this] at hf; cases hf
  · have et : ∀ k, k < K → (xs.take K).getD k 0 = xs.getD k 0 := fun k hk => by simp [List.getD_eq_getElem?_getD, hk]
    have hl : (xs.take K).length = K := by rw [List.length_take]; omega
    have hy : (xs.take K).all finB = true := by
      rw [List.all_eq_true]
      intro x hx
      obtain ⟨j, hj, e⟩ := List.mem_iff_getElem.1 hx
      have := k3 j (by omega)
      rw [← et j (by omega), getD_at hj, e] at this
      exact this
    have hz := sizes_fin hy
    have hlz : ((xs.take K).map rung).length = K := by rw [List.length_map, hl]
    have n1 : ofD (xs.getD K 0) = (dy0, 5) := by unfold ofD; rw [if_pos k2]
    have n2 : ofD (rung (xs.getD K 0)) = (dy0, 5) := by
      unfold ofD
      rw [if_pos]
      unfold finB at k2 ⊢
      rw [rung_small (rung_lt _)]
      exact k2
    refine lsum_stop xs ao cap K (fun k => (ofD (xs.getD k 0)).1) (fun k => (ofD (rung (xs.getD k 0))).1) (sD (xs.take K)) (sD ((xs.take K).map rung)) w hT hr hF hn k1 (fun k hk => ?_) (by unfold sD sI nrm; rw [if_pos rfl]) (by unfold sD sI nrm; rw [if_pos rfl]) (fun k hk => ⟨?_, ?_⟩) (fun k _ => ⟨nrm_lm _ _, nrm_lm _ _⟩) ⟨n1, n2⟩
    · obtain ⟨b1, _, b3, _⟩ := fq_qd (k3 k hk) (K := 64462) rfl
      obtain ⟨d1, _, d3, _⟩ := fq_qd (fin_at hz (by rw [hlz]; exact hk)) (K := 64462) rfl
      rw [sizes_at (by rw [hl]; exact hk), et k hk] at d1 d3
      exact ⟨by rw [← b1], b3, by rw [← d1], d3⟩
    · rw [← et k hk]
      exact sD_add hy (by omega) (by omega)
    · rw [← et k hk, ← sizes_at (xs := xs.take K) (by rw [hl]; exact hk)]
      exact sD_add hz (by omega) (by omega)
end Go.Proofs.YtfhejejfeffdcaaDoor
