/- What span's Sum and Dot answer of any lists. -/
import Derived.Test.YtajcfdcmbiffbaaGreatDoorZk
import Derived.Deep.LoopGhost
import Derived.Test.YtajcfdcmbiffbaaGreatDoorZj
import Derived.Test.YtajcfdcmbiffbaaGreatDoorZg
import Derived.Test.YtajcfdcmbiffbaaGreatDoorX8
namespace Go.Proofs.YtajcfdcmbiffbaaGreatDoor
open Go.RowKit

/-- Spans at an address. -/
def SRow (w : World) (ao : Option Addr) (ps : List (Nat × Nat)) : Prop := ps.length = 0 ∨ ∃ b off, ao = some ⟨b, off, none⟩ ∧ ∀ j, j < ps.length → w.cell? ⟨b, off + j * 2, none⟩ = some (.float .f64 (ps.getD j (0, 0)).1) ∧ w.cell? ⟨b, off + j * 2 + 1, none⟩ = some (.float .f64 (ps.getD j (0, 0)).2)
theorem SRow.below {w w' : World} {ao : Option Addr} {ps : List (Nat × Nat)} (h : SRow w ao ps) (hb : Below w.heap.size w w') : SRow w' ao ps := by
  rcases h with h | ⟨b, off, rfl, hc⟩
  · exact Or.inl h
  · exact Or.inr ⟨b, off, rfl, fun j hj => ⟨by rw [hb.cell (World.block_lt_of_cell? w _ (hc j hj).1)]; exact (hc j hj).1, by rw [hb.cell (World.block_lt_of_cell? w _ (hc j hj).2)]; exact (hc j hj).2⟩⟩
def FS (ps : List (Nat × Nat)) : Prop := ∀ p, p ∈ ps → p.1 < 18446744073709551616 ∧ p.2 < 18446744073709551616
theorem sgetD_at {ps : List (Nat × Nat)} {k : Nat} (hk : k < ps.length) : ps.getD k (0, 0) = ps[k] := by simp [List.getD, hk]
theorem FS.at {ps : List (Nat × Nat)} (h : FS ps) {k : Nat} (hk : k < ps.length) : (ps.getD k (0, 0)).1 < 18446744073709551616 ∧ (ps.getD k (0, 0)).2 < 18446744073709551616 := by
  rw [sgetD_at hk]
  exact h _ (List.getElem_mem hk)
theorem stake_at {ps : List (Nat × Nat)} {k : Nat} (hk : k < ps.length) : ps.take (k + 1) = ps.take k ++ [ps.getD k (0, 0)] := by
  rw [List.take_succ_eq_append_getElem hk, sgetD_at hk]
/-- All right. -/
def rtL (ps : List (Nat × Nat)) : Bool := ps.all fun p => sRt p.1 p.2
theorem rtL_snoc (ps : List (Nat × Nat)) (p : Nat × Nat) : rtL (ps ++ [p]) = (rtL ps && sRt p.1 p.2) := by simp [rtL]
theorem rtL_not {ps : List (Nat × Nat)} {k : Nat} (hk : k < ps.length) (h : sRt (ps.getD k (0, 0)).1 (ps.getD k (0, 0)).2 = false) : rtL ps = false := by
  rw [sgetD_at hk] at h
  unfold rtL
  rw [List.all_eq_false]
  exact ⟨_, List.getElem_mem hk, by rw [h]; simp⟩
theorem rtL_at {ps : List (Nat × Nat)} (h : rtL ps = true) {k : Nat} (hk : k < ps.length) : sRt (ps.getD k (0, 0)).1 (ps.getD k (0, 0)).2 = true := by
  rw [sgetD_at hk]
  exact List.all_eq_true.1 h _ (List.getElem_mem hk)
set_option maxHeartbeats 2000000 in
theorem sall_any (ps : List (Nat × Nat)) (ao : Option Addr) (cap : Nat) (w : World) (hr : SRow w ao ps) (hn : ps.length ≤ 1125899906842624) :
    Calls Tryz.prog 20 #[.slice ao ps.length cap] w fun e w' => e = .returned (.bool (rtL ps)) ∧ Below w.heap.size w w' := by
  have hst := run_storef Tryz.prog
  obtain ⟨N, hN⟩ : ∃ N, ps.length = N := ⟨_, rfl⟩
  have HN : Hid (ps.length = N) := hN
  rw [hN] at hn ⊢
  clear hN
  go_enter Tryz.func20, Tryz.ntmps20
  go_wp2
  go_loopg [4, 7] N (fun g _ v wr => ∃ k : Nat, k ≤ N ∧ g = N - k ∧ v = .int .i64 k ∧ Hid (rtL (ps.take k) = true) ∧ Below w.heap.size w wr)
  case atStart => exact ⟨0, by omega, rfl, rfl, rfl, Below.refl _ _⟩
  case round =>
    obtain ⟨k, hk, hg, rfl, hq, hbr⟩ := hrel
    have HG : Hid (gk = N - k) := hg
    clear hg
    by_cases hlt : k < N
    · rcases hr.below hbr with h | ⟨b, off, rfl, hc⟩
      · exact absurd (HN.out ▸ h) (by omega)
      · have hkl : k < ps.length := by rw [HN.out]; exact hlt
        obtain ⟨g1, g2⟩ := hc k hkl
        have ht := stake_at hkl
        have hnot := @rtL_not ps k hkl
        obtain ⟨⟨x, y⟩, ex⟩ : ∃ x, ps.getD k (0, 0) = x := ⟨_, rfl⟩
        rw [ex] at g1 g2 ht hnot
        simp only at g1 g2 hnot
        have HS : Hid (rtL (ps.take (k + 1)) = sRt x y) := (show _ = _ by rw [ht, rtL_snoc, hq.out]; rfl)
        have r1 := fun w => sright_any x y w
        have i1 : (k : Int) < (N : Int) := by omega
        have i2 : k < N := hlt
        have bz := hbr.size
        have Hnot : Hid (sRt x y = false → rtL ps = false) := hnot
        clear hc ht ex hq hkl hr hnot
        cases q : sRt x y <;> rw [q] at r1
        · have Hn : Hid (rtL ps = false) := Hnot.out q
          clear Hnot HS
          go_wp2_with (go_at_call 33; refine (r1 _).mono ?_; rintro e w1 ⟨rfl, b1⟩)
          go_ret
          exact ⟨by rw [Hn.out]; rfl, hbr.trans ((old1 b1).mono bz)⟩
        · have HS' : Hid (rtL (ps.take (k + 1)) = true) := HS.out.trans q
          clear Hnot HS
          go_wp2_with (go_at_call 33; refine (r1 _).mono ?_; rintro e w1 ⟨rfl, b1⟩)
          go_roundg (N - (k + 1))
          case measure => rw [HG.out]; omega
          case rel => exact ⟨k + 1, by omega, rfl, by go_num, HS', hbr.trans ((old1 b1).mono bz)⟩
    · have e : ps.take k = ps := List.take_of_length_le (by have := HN.out; omega)
      have HS : Hid (rtL ps = true) := (show _ = _ by rw [← e]; exact hq.out)
      have i1 : ¬ (k : Int) < (N : Int) := by omega
      clear hq e
      go_wp2
      go_ret
      exact ⟨by rw [HS.out]; rfl, hbr⟩
end Go.Proofs.YtajcfdcmbiffbaaGreatDoor

namespace Go.Proofs.YtajcfdcmbiffbaaGreatDoor
open Go.RowKit

theorem lsF_two (a b : Nat) : lsF a b = a ∨ lsF a b = b := by unfold lsF; split; exact Or.inr rfl; exact Or.inl rfl
theorem grF_two (a b : Nat) : grF a b = a ∨ grF a b = b := by unfold grF; split; exact Or.inr rfl; exact Or.inl rfl
theorem key_place {a b : Nat} (na : nanB a = false) (nb : nanB b = false) (h : key a ≤ key b) : place a ≤ place b := by
  unfold key at h
  rw [na, nb] at h
  cases sgn a <;> cases sgn b <;> simp at h <;> omega
theorem lsF_place {a b : Nat} (na : nanB a = false) (nb : nanB b = false) : place (lsF a b) ≤ place a ∧ place (lsF a b) ≤ place b ∧ nanB (lsF a b) = false := by
  unfold lsF
  rw [ordF_key]
  by_cases h : key b < key a
  · rw [if_pos h, if_pos (by omega)]
    exact ⟨key_place nb na (by omega), Int.le_refl _, nb⟩
  · have h2 := key_place na nb (by omega)
    rw [if_neg h]
    by_cases g : key a < key b
    · rw [if_pos g, if_neg (by omega)]; exact ⟨Int.le_refl _, h2, na⟩
    · rw [if_neg g, if_neg (by omega)]; exact ⟨Int.le_refl _, h2, na⟩
theorem grF_place {a b : Nat} (na : nanB a = false) (nb : nanB b = false) : place a ≤ place (grF a b) ∧ place b ≤ place (grF a b) ∧ nanB (grF a b) = false := by
  unfold grF
  rw [ordF_key]
  by_cases h : key b < key a
  · rw [if_pos h, if_neg (by omega)]
    exact ⟨Int.le_refl _, key_place nb na (by omega), na⟩
  · have h2 := key_place na nb (by omega)
    rw [if_neg h]
    by_cases g : key a < key b
    · rw [if_pos g, if_pos (by omega)]; exact ⟨h2, Int.le_refl _, nb⟩
    · rw [if_neg g, if_neg (by omega)]
      have h3 := key_place nb na (by omega)
      exact ⟨Int.le_refl _, h3, na⟩
theorem sRt_place {l h : Nat} (hl : l < 18446744073709551616) (hh : h < 18446744073709551616) (nl : nanB l = false) (nh : nanB h = false) : sRt l h = (decide (place l ≤ place h) && decide (place l ≤ 9218868437227405311) && decide (-9218868437227405311 ≤ place h)) := by
  unfold sRt
  rw [leF_num hl hh nl nh, leF_num hl (by omega) nl (by decide), geF_num hh (by omega) nh (by decide), show place 9218868437227405311 = 9218868437227405311 by decide, show place 18442240474082181119 = -9218868437227405311 by decide]
theorem rt_place {l h : Nat} (hl : l < 18446744073709551616) (hh : h < 18446744073709551616) (r : sRt l h = true) : nanB l = false ∧ nanB h = false ∧ place l ≤ place h ∧ place l ≤ 9218868437227405311 ∧ -9218868437227405311 ≤ place h := by
  have nl : nanB l = false := by
    cases n : nanB l
    · rfl
    · rw [sRt_nan hl hh (Or.inl n)] at r; cases r
  have nh : nanB h = false := by
    cases n : nanB h
    · rfl
    · rw [sRt_nan hl hh (Or.inr n)] at r; cases r
  rw [sRt_place hl hh nl nh] at r
  simp at r
  exact ⟨nl, nh, r.1.1, r.1.2, r.2⟩
/-- The hull: right, both lie in it, its ends are ends. -/
theorem hull_facts {a b c d : Nat} (ha : a < 18446744073709551616) (hb : b < 18446744073709551616) (hc : c < 18446744073709551616) (hd : d < 18446744073709551616) (ra : sRt a b = true) (rb : sRt c d = true) :
    (sRt a b && sRt (lsF a c) (grF b d) && leF (lsF a c) a && leF b (grF b d)) = true ∧ (sRt c d && sRt (lsF a c) (grF b d) && leF (lsF a c) c && leF d (grF b d)) = true := by
  obtain ⟨na, nb, a1, a2, a3⟩ := rt_place ha hb ra
  obtain ⟨nc, nd, b1, b2, b3⟩ := rt_place hc hd rb
  obtain ⟨l1, l2, l3⟩ := lsF_place na nc
  obtain ⟨g1, g2, g3⟩ := grF_place nb nd
  have hl := lsF_lt ha hc
  have hg := grF_lt hb hd
  have e : sRt (lsF a c) (grF b d) = true := by
    rw [sRt_place hl hg l3 g3]; simp; omega
  rw [ra, rb, e, leF_num hl ha l3 na, leF_num hb hg nb g3, leF_num hl hc l3 nc, leF_num hd hg nd g3]
  simp; omega
/-- Where they have nothing in common. -/
theorem meet_none {a b c d x : Nat} (ha : a < 18446744073709551616) (hb : b < 18446744073709551616) (hc : c < 18446744073709551616) (hd : d < 18446744073709551616) (hx : x < 18446744073709551616) (ra : sRt a b = true) (rb : sRt c d = true) (o : (FloatKind.f64.format.order (grF a c) (lsF b d) == some .gt) = true) :
    ((sRt a b && finB x && leF a x && leF x b) && (sRt c d && finB x && leF c x && leF x d)) = false ∧ ((FloatKind.f64.format.order b c == some .lt) || (FloatKind.f64.format.order d a == some .lt)) = true := by
  obtain ⟨na, nb, a1, a2, a3⟩ := rt_place ha hb ra
  obtain ⟨nc, nd, b1, b2, b3⟩ := rt_place hc hd rb
  obtain ⟨g1, g2, g3⟩ := grF_place na nc
  obtain ⟨l1, l2, l3⟩ := lsF_place nb nd
  rw [gt_num (grF_lt ha hc) (lsF_lt hb hd) g3 l3] at o
  have o' : place (lsF b d) < place (grF a c) := by simpa using o
  have e1 := grF_two a c
  have e2 := lsF_two b d
  have key : place b < place c ∨ place d < place a := by
    rcases e1 with h | h <;> rcases e2 with g | g <;> rw [h, g] at o' <;> rw [h] at g1 g2 <;> rw [g] at l1 l2 <;> omega
  refine ⟨?_, ?_⟩
  · rw [ra, rb]
    cases fx : finB x
    · simp
    · have nx : nanB x = false := (by have h := fin_rung fx; unfold nanB; simp; omega)
      rw [leF_num ha hx na nx, leF_num hx hb nx nb, leF_num hc hx nc nx, leF_num hx hd nx nd]
      simp; omega
  · rw [lt_num hb hc nb nc, lt_num hd ha nd na]
    simp; exact key
/-- What they have in common. -/
theorem meet_facts {a b c d x : Nat} (ha : a < 18446744073709551616) (hb : b < 18446744073709551616) (hc : c < 18446744073709551616) (hd : d < 18446744073709551616) (hx : x < 18446744073709551616) (ra : sRt a b = true) (rb : sRt c d = true) (o : (FloatKind.f64.format.order (grF a c) (lsF b d) == some .gt) = false) :
    (sRt (grF a c) (lsF b d) && finB x && leF (grF a c) x && leF x (lsF b d)) = ((sRt a b && finB x && leF a x && leF x b) && (sRt c d && finB x && leF c x && leF x d)) ∧
    (sRt (grF a c) (lsF b d) && sRt a b && leF a (grF a c) && leF (lsF b d) b) = true ∧ (sRt (grF a c) (lsF b d) && sRt c d && leF c (grF a c) && leF (lsF b d) d) = true := by
  obtain ⟨na, nb, a1, a2, a3⟩ := rt_place ha hb ra
  obtain ⟨nc, nd, b1, b2, b3⟩ := rt_place hc hd rb
  obtain ⟨g1, g2, g3⟩ := grF_place na nc
  obtain ⟨l1, l2, l3⟩ := lsF_place nb nd
  have hg := grF_lt ha hc
  have hl := lsF_lt hb hd
  rw [gt_num hg hl g3 l3] at o
  have o' : place (grF a c) ≤ place (lsF b d) := by simpa using o
  have e1 := grF_two a c
  have e2 := lsF_two b d
  have p1 : place (grF a c) = place a ∨ place (grF a c) = place c := by rcases e1 with h | h <;> rw [h] <;> simp
  have p2 : place (lsF b d) = place b ∨ place (lsF b d) = place d := by rcases e2 with h | h <;> rw [h] <;> simp
  have e : sRt (grF a c) (lsF b d) = true := by
    rw [sRt_place hg hl g3 l3]; simp; omega
  rw [ra, rb, e, leF_num ha hg na g3, leF_num hl hb l3 nb, leF_num hc hg nc g3, leF_num hl hd l3 nd]
  refine ⟨?_, by simp; omega, by simp; omega⟩
  cases fx : finB x
  · simp
  · have nx : nanB x = false := (by have h := fin_rung fx; unfold nanB; simp; omega)
    rw [leF_num hg hx g3 nx, leF_num hx hl nx l3, leF_num ha hx na nx, leF_num hx hb nx nb, leF_num hc hx nc nx, leF_num hx hd nx nd, Bool.eq_iff_iff]
    simp; omega
/-- A float that is no NaN is itself; an end of the hull is one of both. -/
theorem ends_are {a c v : Nat} (ha : a < 18446744073709551616) (hc : c < 18446744073709551616) (na : nanB a = false) (nc : nanB c = false) (h : v = a ∨ v = c) : ((FloatKind.f64.format.order v a != some .eq) && (FloatKind.f64.format.order v c != some .eq)) = false := by
  have s : ∀ x, x < 18446744073709551616 → nanB x = false → (FloatKind.f64.format.order x x != some .eq) = false := by
    intro x hx nx
    have := eq_num hx hx nx nx
    rw [decide_eq_true rfl] at this
    simpa using this
  rcases h with rfl | rfl
  · rw [s _ ha na]; rfl
  · rw [s _ hc nc]; simp
end Go.Proofs.YtajcfdcmbiffbaaGreatDoor

namespace Go.Proofs.YtajcfdcmbiffbaaGreatDoor
open Go.RowKit

theorem addB_O (m : Int) (x y : Nat) : addB m x y = (addO x y m).getD 0 := by unfold addB addO; split <;> rfl
theorem mulB_O (m : Int) (x y : Nat) : mulB m x y = (mulO x y m).getD 0 := by unfold mulB mulO; split <;> rfl
theorem addO_some {x y : Nat} (m : Int) (h : (floatBits .add .f64 x y).isSome = true) : addO x y m = some (addB m x y) := by
  unfold addB addO
  obtain ⟨v, hv⟩ := Option.isSome_iff_exists.1 h
  split
  · rfl
  · rw [hv]; rfl
theorem mulO_some {x y : Nat} (m : Int) (h : (floatBits .mul .f64 x y).isSome = true) : mulO x y m = some (mulB m x y) := by
  unfold mulB mulO
  obtain ⟨v, hv⟩ := Option.isSome_iff_exists.1 h
  split
  · rfl
  · rw [hv]; rfl
/-- What is told downwards of an exact number is not +Inf, upwards not -Inf. -/
theorem told_ends {s : Bool} {A : Nat} {G : Nat → Nat} {f : Int → Nat} (h : Told s A G f) : place (f 1) ≤ 9218868437227405311 ∧ -9218868437227405311 ≤ place (f 2) := by
  obtain ⟨k, r, ⟨hk, h0, h1, h2⟩, hf⟩ := h
  have t1 : tmd 1 = 2 := rfl
  have t2 : tmd 2 = 1 := rfl
  have c : ∀ m, rgS k r m ≤ 9218868437227405312 := by
    intro m
    unfold rgS
    split
    · omega
    · split
      · rename_i g; have := (h1 g.2).1; omega
      · exact hk
  have d : rgS k r 1 ≤ 9218868437227405311 := by
    unfold rgS
    rcases Int.lt_trichotomy r 0 with g | g | g
    · rw [if_pos ⟨Or.inl rfl, g⟩]; omega
    · rw [if_neg (by omega), if_neg (by omega)]; have := (h0 g).1; omega
    · rw [if_neg (by omega), if_neg (by omega)]; have := (h1 g).1; omega
  rw [hf 1, hf 2]
  cases s
  · simp only [Bool.false_eq_true, if_false]
    rw [place_word _ (c 1), place_word _ (c 2)]
    simp only [tnS, Bool.false_eq_true, if_false]
    omega
  · simp only [if_true, t1, t2]
    rw [place_word _ (c 1), place_word _ (c 2)]
    simp only [tnS, if_true]
    omega
theorem nought_place {v : Nat} (h : NoughtB (some v)) : place v = 0 := by
  rcases h with h | h <;> cases h <;> rfl
theorem add_ends {a c : Nat} (ha : a < 18446744073709551616) (hc : c < 18446744073709551616) (fa : finB a = true) (fc : finB c = true) : place (addB 1 a c) ≤ 9218868437227405311 ∧ -9218868437227405311 ≤ place (addB 2 a c) := by
  have e : ∀ m, addB m a c = addV a c m := fun m => by unfold addB; rw [fa, fc]; rfl
  rw [e, e]
  by_cases h0 : vI a + vI c = 0
  · obtain ⟨e1, g⟩ := add_nought 1 ha hc fa fc h0
    obtain ⟨e2, _⟩ := add_nought 2 ha hc fa fc h0
    rw [e1, e2, nought_place (noughtF_is 1 ha g), nought_place (noughtF_is 2 ha g)]
    omega
  · rw [add_fu 1 ha hc fa fc h0, add_fu 2 ha hc fa fc h0]
    exact told_ends (fu_told (Int.mul_ne_zero h0 (by have h := Nat.two_pow_pos twP; generalize twP = t at *; have e : ((2 ^ t : Nat) : Int) = (2 : Int) ^ t := (by simp); rw [← e]; omega)))
/-- An infinity and a number. -/
theorem add_inf {x y : Nat} (m : Int) (hx : Fn x) (hy : Fn y) (fx : finB x = false) (h : (floatBits .add .f64 x y).isSome = true) : addB m x y = x := by
  have e1 : addB m x y = (floatBits .add .f64 x y).getD 0 := by unfold addB; rw [fx]; rfl
  rw [e1]
  rw [(fbits_map x y).1, (fn_inf hx fx).1, read_nn hy.1 hy.2] at h ⊢
  have hw : Ieee.double.write (.infinity (sgn x)) = x := by rw [show Ieee.double.write (.infinity (sgn x)) = Ieee.double.word (sgn x) 9218868437227405312 from rfl]; exact (fn_inf hx fx).2.1.symm
  cases fy : finB y <;> rw [fy] at h <;> simp only [Bool.false_eq_true, if_false, if_true, Ieee.Datum.sum] at h ⊢
  · by_cases g : sgn x = sgn y
    · rw [if_pos (by simpa using g)]; exact hw
    · rw [if_neg (by simpa using g)] at h; cases h
  · exact hw
theorem rt_fn {l h : Nat} (hl : l < 18446744073709551616) (hh : h < 18446744073709551616) (r : sRt l h = true) : Fn l ∧ Fn h := by
  obtain ⟨nl, nh, _⟩ := rt_place hl hh r
  exact ⟨⟨hl, nl⟩, ⟨hh, nh⟩⟩
theorem lo_inf {l : Nat} (h : Fn l) (p : place l ≤ 9218868437227405311) (f : finB l = false) : sgn l = true ∧ place l = -9218868437227405312 := by
  have := pl_inf h f
  cases s : sgn l <;> rw [s] at this <;> simp only [tnS, if_true, Bool.false_eq_true, if_false] at this
  · omega
  · exact ⟨rfl, this⟩
theorem hi_inf {l : Nat} (h : Fn l) (p : -9218868437227405311 ≤ place l) (f : finB l = false) : sgn l = false ∧ place l = 9218868437227405312 := by
  have := pl_inf h f
  cases s : sgn l <;> rw [s] at this <;> simp only [tnS, if_true, Bool.false_eq_true, if_false] at this
  · exact ⟨rfl, this⟩
  · omega
theorem sRt_mk {l h : Nat} (fl : Fn l) (fh : Fn h) (p1 : place l ≤ place h) (p2 : place l ≤ 9218868437227405311) (p3 : -9218868437227405311 ≤ place h) : sRt l h = true := by
  rw [sRt_place fl.1 fh.1 fl.2 fh.2]
  simp [p1, p2, p3]
theorem add_ways {x y : Nat} (hx : Fn x) (hy : Fn y) (h : (floatBits .add .f64 x y).isSome = true) : Fn (addB 1 x y) ∧ Fn (addB 2 x y) ∧ place (addB 1 x y) ≤ place (addB 2 x y) := by
  have e1 : dO 0 x y 0 1 = some (addB 1 x y) := addO_some 1 h
  have e2 : dO 0 x y 0 2 = some (addB 2 x y) := addO_some 2 h
  rcases ways_0 (a := x) (b := y) 0 hx hy with g | ⟨d, n, u, z, g1, g2, g3, g4, r1, r2, r3, r4, r5, r6, _⟩
  · rw [g 1] at e1; cases e1
  · rw [e1] at g1; rw [e2] at g3
    cases g1; cases g3
    exact ⟨r1, r3, by omega⟩
theorem add_right {a b c d : Nat} (ha : a < 18446744073709551616) (hb : b < 18446744073709551616) (hc : c < 18446744073709551616) (hd : d < 18446744073709551616) (ra : sRt a b = true) (rb : sRt c d = true) :
    sRt (addB 1 a c) (addB 2 b d) = true := by
  obtain ⟨na, nb, fa, fb, _⟩ := rt_facts ha hb ra
  obtain ⟨nc, nd, fc, fd, _⟩ := rt_facts hc hd rb
  obtain ⟨_, _, p1, p2, p3⟩ := rt_place ha hb ra
  obtain ⟨_, _, q1, q2, q3⟩ := rt_place hc hd rb
  have Fa : Fn a := ⟨ha, na⟩
  have Fb : Fn b := ⟨hb, nb⟩
  have Fc : Fn c := ⟨hc, nc⟩
  have Fd : Fn d := ⟨hd, nd⟩
  have o1 := addS_ok ha hc na nc (by rcases fa with h | h <;> rcases fc with g | g <;> simp [h, g])
  have o2 := addS_ok hb hd nb nd (by rcases fb with h | h <;> rcases fd with g | g <;> simp [h, g])
  obtain ⟨w1, w2, w3⟩ := add_ways Fa Fc o1
  obtain ⟨v1, v2, v3⟩ := add_ways Fb Fd o2
  have B1 := bd_fn w1
  have B2 := bd_fn v2
  unfold Bd at B1 B2
  have k1 := (bits_comm a c).1
  have k2 := (bits_comm b d).1
  have x2 : place (addB 1 a c) ≤ 9218868437227405311 := by
    cases f1 : finB a
    · rw [add_inf 1 Fa Fc f1 o1]; exact p2
    · cases f2 : finB c
      · have e : addB 1 a c = addB 1 c a := by
          have := addO_comm 1 ha hc
          rw [addB_O, addB_O, this]
        rw [e, add_inf 1 Fc Fa f2 (by rw [← k1]; exact o1)]; exact q2
      · exact (add_ends ha hc f1 f2).1
  have x3 : -9218868437227405311 ≤ place (addB 2 b d) := by
    cases f1 : finB b
    · rw [add_inf 2 Fb Fd f1 o2]; exact p3
    · cases f2 : finB d
      · have e : addB 2 b d = addB 2 d b := by
          have := addO_comm 2 hb hd
          rw [addB_O, addB_O, this]
        rw [e, add_inf 2 Fd Fb f2 (by rw [← k2]; exact o2)]; exact q3
      · exact (add_ends hb hd f1 f2).2
  refine sRt_mk w1 v2 ?_ x2 x3
  cases f1 : finB b
  · rw [add_inf 2 Fb Fd f1 o2, (hi_inf Fb p3 f1).2]; omega
  · have o3 := addS_ok hb hc nb nc (Or.inl f1)
    have e1 := addO_le 2 Fa Fb Fc p1 _ _ (addO_some 2 o1) (addO_some 2 o3)
    have c1 := addO_comm 2 hb hc
    have c2 := addO_comm 2 hb hd
    have e2 := addO_le 2 Fc Fd Fb q1 _ _ (c1.trans (addO_some 2 o3)) (c2.trans (addO_some 2 o2))
    omega
/-- Products of ends. -/

theorem tB_ways {x y : Nat} (hx : Fn x) (hy : Fn y) : Fn (tB 1 x y) ∧ Fn (tB 2 x y) ∧ place (tB 1 x y) ≤ place (tB 2 x y) := by
  unfold tB
  cases h : ((rung x == 0 && !finB y) || (rung y == 0 && !finB x))
  · simp only [Bool.false_eq_true, if_false]
    have o := mulS_ok hx.1 hy.1 hx.2 hy.2 h
    have e1 : dO 2 x y 0 1 = some (mulB 1 x y) := mulO_some 1 o
    have e2 : dO 2 x y 0 2 = some (mulB 2 x y) := mulO_some 2 o
    rcases ways_2 (a := x) (b := y) 0 hx hy with g | ⟨d, n, u, z, g1, g2, g3, g4, r1, r2, r3, r4, r5, r6, _⟩
    · rw [g 1] at e1; cases e1
    · rw [e1] at g1; rw [e2] at g3
      cases g1; cases g3
      exact ⟨r1, r3, by omega⟩
  · simp only [if_true]
    exact ⟨⟨by omega, rfl⟩, ⟨by omega, rfl⟩, Int.le_refl _⟩
theorem mul_zero_place {x y v : Nat} (hx : Fn x) (hy : Fn y) (fx : finB x = true) (fy : finB y = true) (s : (someB x && someB y) = false) (e : floatBits .mul .f64 x y = some v) : place v = 0 := by
  rw [(fbits_map x y).2.2.1, read_fin hx.1 fx, read_fin hy.1 fy] at e
  have m0 : mg (rung x) * mg (rung y) = 0 := by
    have z : rung x = 0 ∨ rung y = 0 := by
      unfold someB at s
      rw [fx, fy] at s
      simp at s
      omega
    rcases z with z | z
    · rw [mg_nil.2 z, Nat.zero_mul]
    · rw [mg_nil.2 z, Nat.mul_zero]
  simp only [Ieee.Datum.product, m0, Option.map_some] at e
  have e2 := Option.some.inj e
  rw [← e2]
  exact zero_place (word_rung _ (show 0 < 9223372036854775808 by omega)).1
theorem mul_ends {x y : Nat} (hx : Fn x) (hy : Fn y) (fx : finB x = true) (fy : finB y = true) : place (tB 1 x y) ≤ 9218868437227405311 ∧ -9218868437227405311 ≤ place (tB 2 x y) := by
  have e : ∀ m, tB m x y = mulB m x y := fun m => by unfold tB; rw [fx, fy]; simp
  rw [e, e]
  cases s : (someB x && someB y)
  · have o := mulS_ok hx.1 hy.1 hx.2 hy.2 (by rw [fx, fy]; simp)
    obtain ⟨v, hv⟩ := Option.isSome_iff_exists.1 o
    have g : ∀ m, mulB m x y = v := fun m => by unfold mulB; rw [s, hv]; rfl
    rw [g, g, mul_zero_place hx hy fx fy s hv]
    omega
  · have sx : someB x = true := by revert s; cases someB x <;> simp
    have sy : someB y = true := by revert s; cases someB x <;> simp
    have g : ∀ m, mulB m x y = fuV (vI x * vI y) m := fun m => by unfold mulB; rw [s]; exact mul_fu m hx.1 hy.1 sx sy
    rw [g, g]
    have rx := (vI_sign (show rung x ≠ 0 by simpa using (some_rung sx).2)).1
    have ry := (vI_sign (show rung y ≠ 0 by simpa using (some_rung sy).2)).1
    exact told_ends (fu_told (Int.mul_ne_zero rx ry))
/-- An infinity times a number. -/
theorem mul_inf {x y : Nat} (m : Int) (hx : Fn x) (hy : Fn y) (fx : finB x = false) : (rung y = 0 ∧ tB m x y = 0) ∨ place (tB m x y) = tnS (sgn x ^^ sgn y) 9218868437227405312 := by
  have rx : rung x ≠ 0 := by rw [(fn_inf hx fx).2.2]; omega
  by_cases y0 : rung y = 0
  · left
    refine ⟨y0, ?_⟩
    unfold tB; rw [y0, fx]; simp
  · right
    have hT : tB m x y = mulB m x y := by unfold tB; simp [rx, y0]
    have hM : mulB m x y = (floatBits .mul .f64 x y).getD 0 := by unfold mulB someB; rw [fx]; rfl
    have my : mg (rung y) ≠ 0 := by rw [Ne, mg_nil]; exact y0
    rw [hT, hM, (fbits_map x y).2.2.1, (fn_inf hx fx).1, read_nn hy.1 hy.2]
    have hw : ∀ s, place (Ieee.double.write (.infinity s)) = tnS s 9218868437227405312 := fun s => place_word s (Nat.le_refl _)
    cases fy : finB y <;> simp only [Bool.false_eq_true, if_false, if_true, Ieee.Datum.product, Option.map_some, Option.getD_some]
    · exact hw _
    · rw [if_neg my]; exact hw _
theorem tB_comm {x y : Nat} (m : Int) (hx : x < 18446744073709551616) (hy : y < 18446744073709551616) : tB m y x = tB m x y := by
  unfold tB
  rw [mulB_O, mulB_O, mulO_comm m hx hy]
  congr 1
  rw [Bool.or_comm]
theorem lsF_fn {a b : Nat} (ha : Fn a) (hb : Fn b) : Fn (lsF a b) ∧ place (lsF a b) ≤ place a ∧ place (lsF a b) ≤ place b := by
  obtain ⟨h1, h2, h3⟩ := lsF_place ha.2 hb.2
  exact ⟨⟨lsF_lt ha.1 hb.1, h3⟩, h1, h2⟩
theorem grF_fn {a b : Nat} (ha : Fn a) (hb : Fn b) : Fn (grF a b) ∧ place a ≤ place (grF a b) ∧ place b ≤ place (grF a b) := by
  obtain ⟨h1, h2, h3⟩ := grF_place ha.2 hb.2
  exact ⟨⟨grF_lt ha.1 hb.1, h3⟩, h1, h2⟩
theorem lsC_fn {R : Int → Nat → Nat → Nat} {a b c d : Nat} (h1 : Fn (R 1 a c)) (h2 : Fn (R 1 a d)) (h3 : Fn (R 1 b c)) (h4 : Fn (R 1 b d)) :
    Fn (lsC R a b c d) ∧ place (lsC R a b c d) ≤ place (R 1 a c) ∧ place (lsC R a b c d) ≤ place (R 1 a d) ∧ place (lsC R a b c d) ≤ place (R 1 b c) ∧ place (lsC R a b c d) ≤ place (R 1 b d) := by
  obtain ⟨f1, p1, p2⟩ := lsF_fn h1 h2
  obtain ⟨f2, p3, p4⟩ := lsF_fn f1 h3
  obtain ⟨f3, p5, p6⟩ := lsF_fn f2 h4
  unfold lsC
  exact ⟨f3, by omega, by omega, by omega, by omega⟩
theorem grC_fn {R : Int → Nat → Nat → Nat} {a b c d : Nat} (h1 : Fn (R 2 a c)) (h2 : Fn (R 2 a d)) (h3 : Fn (R 2 b c)) (h4 : Fn (R 2 b d)) :
    Fn (grC R a b c d) ∧ place (R 2 a c) ≤ place (grC R a b c d) ∧ place (R 2 a d) ≤ place (grC R a b c d) ∧ place (R 2 b c) ≤ place (grC R a b c d) ∧ place (R 2 b d) ≤ place (grC R a b c d) := by
  obtain ⟨f1, p1, p2⟩ := grF_fn h1 h2
  obtain ⟨f2, p3, p4⟩ := grF_fn f1 h3
  obtain ⟨f3, p5, p6⟩ := grF_fn f2 h4
  unfold grC
  exact ⟨f3, by omega, by omega, by omega, by omega⟩
theorem mul_inf2 {x z y : Nat} (hx : Fn x) (hz : Fn z) (hy : Fn y) (fx : finB x = false) (fz : finB z = false) (s1 : sgn x = true) (s2 : sgn z = false) :
    (place (tB 1 x y) ≤ 0 ∨ place (tB 1 z y) ≤ 0) ∧ (0 ≤ place (tB 2 x y) ∨ 0 ≤ place (tB 2 z y)) := by
  have p0 : place 0 = 0 := rfl
  constructor
  · rcases mul_inf 1 hx hy fx with ⟨_, e⟩ | e
    · rw [e]; omega
    · rcases mul_inf 1 hz hy fz with ⟨_, e2⟩ | e2
      · rw [e2]; omega
      · rw [e, e2, s1, s2]; cases sgn y <;> simp [tnS]
  · rcases mul_inf 2 hx hy fx with ⟨_, e⟩ | e
    · rw [e]; omega
    · rcases mul_inf 2 hz hy fz with ⟨_, e2⟩ | e2
      · rw [e2]; omega
      · rw [e, e2, s1, s2]; cases sgn y <;> simp [tnS]
theorem mul_right {a b c d : Nat} (ha : a < 18446744073709551616) (hb : b < 18446744073709551616) (hc : c < 18446744073709551616) (hd : d < 18446744073709551616) (ra : sRt a b = true) (rb : sRt c d = true) :
    sRt (lsC tB a b c d) (grC tB a b c d) = true := by
  obtain ⟨na, nb, p1, p2, p3⟩ := rt_place ha hb ra
  obtain ⟨nc, nd, q1, q2, q3⟩ := rt_place hc hd rb
  have Fa : Fn a := ⟨ha, na⟩
  have Fb : Fn b := ⟨hb, nb⟩
  have Fc : Fn c := ⟨hc, nc⟩
  have Fd : Fn d := ⟨hd, nd⟩
  obtain ⟨x1, y1, z1⟩ := tB_ways Fa Fc
  obtain ⟨x2, y2, z2⟩ := tB_ways Fa Fd
  obtain ⟨x3, y3, z3⟩ := tB_ways Fb Fc
  obtain ⟨x4, y4, z4⟩ := tB_ways Fb Fd
  obtain ⟨u1, u2, u3, u4, u5⟩ := lsC_fn x1 x2 x3 x4
  obtain ⟨v1, v2, v3, v4, v5⟩ := grC_fn y1 y2 y3 y4
  have key : place (lsC tB a b c d) ≤ 9218868437227405311 ∧ -9218868437227405311 ≤ place (grC tB a b c d) := by
    cases fa : finB a <;> cases fb : finB b
    · have h := mul_inf2 Fa Fb Fc fa fb (lo_inf Fa p2 fa).1 (hi_inf Fb p3 fb).1
      omega
    · cases fc : finB c <;> cases fd : finB d
      · have h := mul_inf2 Fc Fd Fb fc fd (lo_inf Fc q2 fc).1 (hi_inf Fd q3 fd).1
        rw [tB_comm 1 hb hc, tB_comm 2 hb hc, tB_comm 1 hb hd, tB_comm 2 hb hd] at h
        omega
      · have h := mul_ends Fb Fd fb fd; omega
      · have h := mul_ends Fb Fc fb fc; omega
      · have h := mul_ends Fb Fc fb fc; omega
    · cases fc : finB c <;> cases fd : finB d
      · have h := mul_inf2 Fc Fd Fa fc fd (lo_inf Fc q2 fc).1 (hi_inf Fd q3 fd).1
        rw [tB_comm 1 ha hc, tB_comm 2 ha hc, tB_comm 1 ha hd, tB_comm 2 ha hd] at h
        omega
      · have h := mul_ends Fa Fd fa fd; omega
      · have h := mul_ends Fa Fc fa fc; omega
      · have h := mul_ends Fa Fc fa fc; omega
    · cases fc : finB c <;> cases fd : finB d
      · have h := mul_inf2 Fc Fd Fa fc fd (lo_inf Fc q2 fc).1 (hi_inf Fd q3 fd).1
        rw [tB_comm 1 ha hc, tB_comm 2 ha hc, tB_comm 1 ha hd, tB_comm 2 ha hd] at h
        omega
      · have h := mul_ends Fa Fd fa fd; omega
      · have h := mul_ends Fa Fc fa fc; omega
      · have h := mul_ends Fa Fc fa fc; omega
  exact sRt_mk u1 v1 (by omega) key.1 key.2
end Go.Proofs.YtajcfdcmbiffbaaGreatDoor

namespace Go.Proofs.YtajcfdcmbiffbaaGreatDoor
open Go.RowKit

/-- A sum of two, a product of two. -/
def adP (o p : Nat × Nat) : Nat × Nat := (addB 1 o.1 p.1, addB 2 o.2 p.2)
def muP (p q : Nat × Nat) : Nat × Nat := (lsC tB p.1 p.2 q.1 q.2, grC tB p.1 p.2 q.1 q.2)
/-- A right span's ends. -/
def RtP (p : Nat × Nat) : Prop := p.1 < 18446744073709551616 ∧ p.2 < 18446744073709551616 ∧ sRt p.1 p.2 = true
theorem rtP_zero : RtP (0, 0) := ⟨by omega, by omega, by decide⟩
theorem adP_rt {o p : Nat × Nat} (h : RtP o) (g : RtP p) : RtP (adP o p) := by
  have r := add_right h.1 h.2.1 g.1 g.2.1 h.2.2 g.2.2
  obtain ⟨na, nb, fa, fb, _⟩ := rt_facts h.1 h.2.1 h.2.2
  obtain ⟨nc, nd, fc, fd, _⟩ := rt_facts g.1 g.2.1 g.2.2
  have o1 := addS_ok h.1 g.1 na nc (by rcases fa with h | h <;> rcases fc with g | g <;> simp [h, g])
  have o2 := addS_ok h.2.1 g.2.1 nb nd (by rcases fb with h | h <;> rcases fd with g | g <;> simp [h, g])
  exact ⟨(add_ways ⟨h.1, na⟩ ⟨g.1, nc⟩ o1).1.1, (add_ways ⟨h.2.1, nb⟩ ⟨g.2.1, nd⟩ o2).2.1.1, r⟩
theorem muP_rt {p q : Nat × Nat} (h : RtP p) (g : RtP q) : RtP (muP p q) := by
  have r := mul_right h.1 h.2.1 g.1 g.2.1 h.2.2 g.2.2
  obtain ⟨na, nb, _⟩ := rt_facts h.1 h.2.1 h.2.2
  obtain ⟨nc, nd, _⟩ := rt_facts g.1 g.2.1 g.2.2
  have Fa : Fn p.1 := ⟨h.1, na⟩
  have Fb : Fn p.2 := ⟨h.2.1, nb⟩
  have Fc : Fn q.1 := ⟨g.1, nc⟩
  have Fd : Fn q.2 := ⟨g.2.1, nd⟩
  obtain ⟨x1, y1, _⟩ := tB_ways Fa Fc
  obtain ⟨x2, y2, _⟩ := tB_ways Fa Fd
  obtain ⟨x3, y3, _⟩ := tB_ways Fb Fc
  obtain ⟨x4, y4, _⟩ := tB_ways Fb Fd
  exact ⟨(lsC_fn x1 x2 x3 x4).1.1, (grC_fn y1 y2 y3 y4).1.1, r⟩
/-- Both sides' sums and products of two right spans. -/
theorem add_TB {o p : Nat × Nat} (h : RtP o) (g : RtP p) : (TB 40 o.1 p.1 1 (adP o p).1 ∧ TB 41 o.1 p.1 1 (adP o p).1) ∧ TB 40 o.2 p.2 2 (adP o p).2 ∧ TB 41 o.2 p.2 2 (adP o p).2 := by
  obtain ⟨na, nb, fa, fb, _⟩ := rt_facts h.1 h.2.1 h.2.2
  obtain ⟨nc, nd, fc, fd, _⟩ := rt_facts g.1 g.2.1 g.2.2
  have o1 := addS_ok h.1 g.1 na nc (by rcases fa with h | h <;> rcases fc with g | g <;> simp [h, g])
  have o2 := addS_ok h.2.1 g.2.1 nb nd (by rcases fb with h | h <;> rcases fd with g | g <;> simp [h, g])
  obtain ⟨_, l2, l3⟩ := radd_B 1 h.1 g.1 o1
  obtain ⟨_, u2, u3⟩ := radd_B 2 h.2.1 g.2.1 o2
  exact ⟨⟨l2, l3⟩, u2, u3⟩
theorem ssum_R {o p : Nat × Nat} (h : RtP o) (g : RtP p) (w : World) (hT : TabW w) :
    Calls Tryz.prog 26 #[spV o.1 o.2, spV p.1 p.2] w fun e w' => e = .returned (spV (adP o p).1 (adP o p).2) ∧ Below w.heap.size w w' :=
  ssum_B o.1 o.2 p.1 p.2 _ _ (add_TB h g).1.1 (add_TB h g).2.1 w hT
theorem radd_R {o p : Nat × Nat} (h : RtP o) (g : RtP p) (w : World) (hT : TabW w) :
    Calls Tryz.prog 28 #[spV o.1 o.2, spV p.1 p.2] w fun e w' => e = .returned (.tuple #[spV (adP o p).1 (adP o p).2, .int .i64 0]) ∧ Below w.heap.size w w' :=
  radd5_B o.1 o.2 p.1 p.2 _ _ h.1 h.2.1 g.1 g.2.1 h.2.2 g.2.2 (add_TB h g).1.2 (add_TB h g).2.2 w hT
theorem sprod_R {p q : Nat × Nat} (h : RtP p) (g : RtP q) (w : World) (hT : TabW w) :
    Calls Tryz.prog 29 #[spV p.1 p.2, spV q.1 q.2] w fun e w' => e = .returned (spV (muP p q).1 (muP p q).2) ∧ Below w.heap.size w w' :=
  sproduct_B p.1 p.2 q.1 q.2 tB (corn_mul h.1 h.2.1 g.1 g.2.1 h.2.2 g.2.2).1 w hT
theorem rmul_R {p q : Nat × Nat} (h : RtP p) (g : RtP q) (w : World) (hT : TabW w) :
    Calls Tryz.prog 30 #[spV p.1 p.2, spV q.1 q.2] w fun e w' => e = .returned (.tuple #[spV (muP p q).1 (muP p q).2, .int .i64 0]) ∧ Below w.heap.size w w' :=
  rmul5_B p.1 p.2 q.1 q.2 _ _ tB (by unfold muP lsC; rw [lsF_assoc]) (by unfold muP grC; rw [grF_assoc]) h.1 h.2.1 g.1 g.2.1 h.2.2 g.2.2 (corn_mul h.1 h.2.1 g.1 g.2.1 h.2.2 g.2.2).2 w hT
/-- The sum of all; of products. -/
def smP (ps : List (Nat × Nat)) : Nat × Nat := ps.foldl adP (0, 0)
def dtP (ps qs : List (Nat × Nat)) (k : Nat) : Nat × Nat := match k with
  | 0 => (0, 0)
  | k + 1 => adP (dtP ps qs k) (muP (ps.getD k (0, 0)) (qs.getD k (0, 0)))
theorem smP_snoc (ps : List (Nat × Nat)) (p : Nat × Nat) : smP (ps ++ [p]) = adP (smP ps) p := by simp [smP]
theorem rt_at {ps : List (Nat × Nat)} (hF : FS ps) (h : rtL ps = true) {k : Nat} (hk : k < ps.length) : RtP (ps.getD k (0, 0)) := ⟨(hF.at hk).1, (hF.at hk).2, rtL_at h hk⟩
theorem smP_rt {ps : List (Nat × Nat)} (hF : FS ps) (h : rtL ps = true) : ∀ k, k ≤ ps.length → RtP (smP (ps.take k))
  | 0, _ => by rw [List.take_zero]; exact rtP_zero
  | k + 1, hk => by
    rw [stake_at (by omega), smP_snoc]
    exact adP_rt (smP_rt hF h k (by omega)) (rt_at hF h (by omega))
theorem dtP_rt {ps qs : List (Nat × Nat)} (hF : FS ps) (h : rtL ps = true) (hG : FS qs) (g : rtL qs = true) : ∀ k, k ≤ ps.length → k ≤ qs.length → RtP (dtP ps qs k)
  | 0, _, _ => rtP_zero
  | k + 1, hk, hj => adP_rt (dtP_rt hF h hG g k (by omega) (by omega)) (muP_rt (rt_at hF h (by omega)) (rt_at hG g (by omega)))
/-- What is told, with its error. -/
def smA (ps : List (Nat × Nat)) : (Nat × Nat) × Int := if rtL ps then (smP ps, 0) else ((0, 0), 2)
def dtA (ps qs : List (Nat × Nat)) : (Nat × Nat) × Int := if ps.length = qs.length then (if rtL ps && rtL qs then (dtP ps qs ps.length, 0) else ((0, 0), 2)) else ((0, 0), 4)
abbrev tsE (a : (Nat × Nat) × Int) : Value := .tuple #[spV a.1.1 a.1.2, .int .i64 a.2]
theorem Bx.keep {wr : World} {b c : Nat} {x y : Value} (h : Bx wr b x y) (o : Obj) {w1 : World} (hb : Below (wr.alloc o).heap.size (wr.alloc o) w1) (n : b ≠ c) (u v : Value) : Bx ((w1.setCell ⟨c, 0, none⟩ u).setCell ⟨c, 1, none⟩ v) b x y := ((h.alloc o).below hb).other n u v
set_option maxHeartbeats 2000000 in
theorem ssumL_any (ps : List (Nat × Nat)) (ao : Option Addr) (cap : Nat) (w : World) (hT : TabW w) (hr : SRow w ao ps) (hF : FS ps) (hn : ps.length ≤ 1125899906842624) :
    Calls Tryz.prog 8 #[.slice ao ps.length cap] w fun e w' => e = .returned (tsE (smA ps)) ∧ Below w.heap.size w w' := by
  have hst := run_storef Tryz.prog
  have ca := fun w h => sall_any ps ao cap w h hn
  cases hq : rtL ps <;> rw [hq] at ca
  · have HE : Hid (smA ps = ((0, 0), 2)) := (show _ = _ by unfold smA; rw [hq]; rfl)
    obtain ⟨N, hN⟩ : ∃ N, ps.length = N := ⟨_, rfl⟩
    rw [hN] at ca ⊢
    clear hN hF
    go_enter Tryz.func8, Tryz.ntmps8
    go_wp2_with (go_at_call 20; refine (ca _ (hr.below ((Below.refl _ _).alloc (Nat.le_refl _) _))).mono ?_; rintro e w1 ⟨rfl, b1⟩; obtain ⟨c0, c1, f0, f1, _⟩ := (Bx.new _ _ _ _).below b1)
    exact bodyPost_ret (v := .tuple #[spV 0 0, .int .i64 2]) (by simp [results, Tryz.results8, go_sem, c0, c1]) rfl ⟨by rw [HE.out], set2 (old1 b1) (Nat.le_refl _) _ _⟩
  · have HE : Hid (smA ps = (smP ps, 0)) := (show _ = _ by unfold smA; rw [hq]; rfl)
    have HR : Hid (∀ k, k ≤ ps.length → RtP (smP (ps.take k))) := smP_rt hF hq
    have HA : Hid (∀ k, k < ps.length → RtP (ps.getD k (0, 0))) := fun k hk => rt_at hF hq hk
    obtain ⟨N, hN⟩ : ∃ N, ps.length = N := ⟨_, rfl⟩
    have HN : Hid (ps.length = N) := hN
    rw [hN] at ca hn ⊢
    clear hN hF
    go_enter Tryz.func8, Tryz.ntmps8
    go_upto_region 4 with (go_at_call 20; refine (ca _ (hr.below ((Below.refl _ _).alloc (Nat.le_refl _) _))).mono ?_; rintro e w1 ⟨rfl, b1⟩)
    have R1 := (Bx.new w (.float .f64 0) (.float .f64 0) 27).below b1
    have Z1 := old1 b1
    clear b1 ca
    have R2 := R1.alloc (.cells #[.float .f64 0, .float .f64 0] 27)
    have H2 := Bx.new w1 (.float .f64 0) (.float .f64 0) 27
    have Z2 := Z1.alloc Z1.size (.cells #[.float .f64 0, .float .f64 0] 27)
    have np : w.heap.size ≠ w1.heap.size := by have := R1.2.2.2.2; omega
    have hp : w.heap.size ≤ w1.heap.size := Z1.size
    generalize w1.alloc (.cells #[.float .f64 0, .float .f64 0] 27) = w2 at *
    generalize w1.heap.size = p at *
    clear R1 Z1
    go_wp2
    go_loopg [6, 14] N (fun g _ v wr => ∃ k : Nat, k ≤ N ∧ g = N - k ∧ v = .int .i64 k ∧ Below w.heap.size w wr ∧ Bx wr w.heap.size (.float .f64 0) (.float .f64 0) ∧ Bx wr p (.float .f64 (smP (ps.take k)).1) (.float .f64 (smP (ps.take k)).2))
    case atStart => exact ⟨0, by omega, rfl, rfl, Z2, R2, by simpa [smP] using H2⟩
    case round =>
      obtain ⟨k, hk, hg, rfl, Zr, Rr, Hr⟩ := hrel
      have HG : Hid (gk = N - k) := hg
      clear hg R2 H2 Z2
      by_cases hlt : k < N
      · rcases hr.below Zr with h | ⟨b, off, rfl, hc⟩
        · exact absurd (HN.out ▸ h) (by omega)
        · have hkl : k < ps.length := by rw [HN.out]; exact hlt
          obtain ⟨g1, g2⟩ := hc k hkl
          have ht := stake_at hkl
          have ra := HA.out k hkl
          have rb := HR.out k (by omega)
          obtain ⟨x, ex⟩ : ∃ x, ps.getD k (0, 0) = x := ⟨_, rfl⟩
          obtain ⟨t, et⟩ : ∃ t, smP (ps.take k) = t := ⟨_, rfl⟩
          rw [ex] at g1 g2 ht ra
          rw [et] at rb Hr
          have HS : Hid (smP (ps.take (k + 1)) = adP t x) := (show _ = _ by rw [ht, smP_snoc, et])
          have cs := fun w hT => ssum_R rb ra w hT
          obtain ⟨⟨u, v⟩, eu⟩ : ∃ u, adP t x = u := ⟨_, rfl⟩
          rw [eu] at HS cs
          obtain ⟨x0, x1⟩ := x
          obtain ⟨t0, t1⟩ := t
          simp only at g1 g2 cs Hr
          have i1 : (k : Int) < (N : Int) := by omega
          have i2 : k < N := hlt
          have Tr := tabW_below hT Zr
          have bz := Zr.size
          have h0 := (Hr.alloc (.cells #[.float .f64 x0, .float .f64 x1] 27)).1
          have h1 := (Hr.alloc (.cells #[.float .f64 x0, .float .f64 x1] 27)).2.1
          clear hc ht ex et eu ra rb hkl hr
          go_wp2_with (go_at_call 26; refine (cs _ (tabW_alloc Tr _)).mono ?_; rintro e w3 ⟨rfl, b3⟩; obtain ⟨k0, k1, k2, k3, _⟩ := (Hr.alloc _).below b3)
          have H4 := ((Hr.alloc _).below b3).put (.float .f64 u) (.float .f64 v)
          have R4 := ((Rr.alloc _).below b3).other np (.float .f64 u) (.float .f64 v)
          have Z4 := set2 (bstep Zr b3) hp (.float .f64 u) (.float .f64 v)
          go_roundg (N - (k + 1))
          case measure => rw [HG.out]; omega
          case rel => exact ⟨k + 1, by omega, rfl, by go_num, Z4, R4, by rw [HS.out]; exact H4⟩
      · have e : ps.take k = ps := List.take_of_length_le (by have := HN.out; omega)
        rw [e] at Hr
        obtain ⟨⟨t0, t1⟩, et⟩ : ∃ t, smP ps = t := ⟨_, rfl⟩
        rw [et] at Hr HE
        simp only at Hr
        obtain ⟨c0, c1, f0, f1, _⟩ := Rr
        obtain ⟨d0, d1, _⟩ := Hr
        have i1 : ¬ (k : Int) < (N : Int) := by omega
        clear e et
        go_wp2
        exact bodyPost_ret (v := .tuple #[spV t0 t1, .int .i64 0]) (by simp [results, Tryz.results8, go_sem, c0, c1]) rfl ⟨by rw [HE.out], set2 Zr (Nat.le_refl _) _ _⟩
end Go.Proofs.YtajcfdcmbiffbaaGreatDoor
