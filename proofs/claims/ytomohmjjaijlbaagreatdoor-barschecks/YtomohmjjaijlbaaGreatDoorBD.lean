/- The document's Unknowns, of any plan: the walk. -/
import Derived.Test.YtomohmjjaijlbaaGreatDoorBC
import Derived.Test.YtomohmjjaijlbaaGreatDoorJD
import Derived.Deep.Heap
namespace Go.Proofs.YtomohmjjaijlbaaGreatDoor
open Go.RowKit

set_option maxHeartbeats 4000000 in
theorem dbcheck_any (js : List Jn) (ms : List Mb) (ao mo : Option Addr) (ac mc : Nat) (w : World) (hr : JRow w ao js) (hw : JWs js) (hn : js.length ≤ 1125899906842624) (mr : MRow w mo ms) (mw : MWs ms) (mn : ms.length ≤ 1125899906842624) :
    Calls Tryz.prog 6 #[.agg #[.slice ao js.length ac, .slice mo ms.length mc]] w fun e w' => e = .returned (.tuple #[.int .i64 (cpA js ms).1, .int .i64 ((cpA js ms).2 : Nat)]) ∧ Below w.heap.size w w' := by
  have cj := fun w' (h : JRow w' ao js) => dcheck_any js ao ac w' h hw hn
  have cm := fun k (hk : k < ms.length) w' (h : MRow w' mo ms) => dmaym_any ms js.length k ao mo ac mc w' h mw mn hk
  obtain ⟨N, hN⟩ : ∃ N, ms.length = N := ⟨_, rfl⟩
  have HN : Hid (ms.length = N) := hN
  have HC : Hid (cpA js ms = if (ckA js).1 = 0 then cmA js.length ms else ckA js) := (show _ = _ from rfl)
  obtain ⟨A, hA⟩ : ∃ A, js.length = A := ⟨_, rfl⟩
  rw [hN] at mn cm ⊢
  rw [hA] at cj hn HC cm ⊢
  generalize cpA js ms = cp at *
  obtain ⟨⟨c1, c2⟩, hc⟩ : ∃ c, ckA js = c := ⟨_, rfl⟩
  rw [hc] at cj HC
  simp only at cj HC
  have hb0 : Below w.heap.size w (w.alloc (.cells #[.slice ao A ac, .slice mo N mc] 25)) := (Below.refl _ _).alloc (Nat.le_refl _) _
  have p0 : (w.alloc (.cells #[.slice ao A ac, .slice mo N mc] 25)).cell? ⟨w.heap.size, 0, none⟩ = some (.slice ao A ac) := by simp [go_sem]
  have p1 : (w.alloc (.cells #[.slice ao A ac, .slice mo N mc] 25)).cell? ⟨w.heap.size, 1, none⟩ = some (.slice mo N mc) := by simp [go_sem]
  have pl : w.heap.size < (w.alloc (.cells #[.slice ao A ac, .slice mo N mc] 25)).heap.size := by simp
  replace hr := hr.below hb0
  replace mr := mr.below hb0
  clear hw hc hN hA mw
  go_enter Tryz.func6, Tryz.ntmps6
  go_upto_region 1 with fail
  generalize w.alloc (.cells #[.slice ao A ac, .slice mo N mc] 25) = W0 at *
  by_cases hc0 : c1 = 0
  · subst hc0
    have HC2 : Hid (cp = cmA A ms) := HC.out.trans (by rw [if_pos rfl])
    clear HC
    go_upto_region 2 with (go_at_call 16; refine (cj _ hr).mono ?_; rintro e w1 ⟨rfl, b1⟩)
    replace mr := mr.below b1
    have q0 : w1.cell? ⟨w.heap.size, 0, none⟩ = some (.slice ao A ac) := (b1.cell (p := ⟨w.heap.size, 0, none⟩) pl).trans p0
    have q1 : w1.cell? ⟨w.heap.size, 1, none⟩ = some (.slice mo N mc) := (b1.cell (p := ⟨w.heap.size, 1, none⟩) pl).trans p1
    replace pl : w.heap.size < w1.heap.size := Nat.lt_of_lt_of_le pl b1.size
    have hb1 := hb0.trans (b1.mono hb0.size)
    clear p0 p1 hb0 b1 cj hr
    by_cases h1 : 48 < N
    · have i1 : (48 : Int) < (N : Int) := by omega
      have Hc : Hid (cp = (3, 0)) := HC2.out.trans (cm_long (by rw [HN.out]; exact h1))
      go_wp2
      go_ret2
      exact ⟨by rw [Hc.out]; rfl, hb1⟩
    have i1 : ¬ (48 : Int) < (N : Int) := by omega
    have HL : Hid (¬ 48 < ms.length) := (by rw [HN.out]; exact h1 : ¬ 48 < ms.length)
    go_upto_region 7 with fail
    clear h1 i1
    go_loopg [6] N (fun g v wr => ∃ k : Nat, k ≤ N ∧ g = N - k ∧ v = .int .i64 k ∧ Hid (∀ i, i < k → fM A ms i = false) ∧ Below w1.heap.size w1 wr)
    case atStart => exact ⟨0, by omega, rfl, rfl, (fun i hi => absurd hi (by omega)), Below.refl _ _⟩
    case round =>
      obtain ⟨k, hk, hg, rfl, hq, hbr⟩ := hrel
      have HG : Hid (gk = N - k) := hg
      clear hg
      have r0 := (hbr.cell (p := ⟨w.heap.size, 0, none⟩) pl).trans q0
      have r1 := (hbr.cell (p := ⟨w.heap.size, 1, none⟩) pl).trans q1
      have hbx := hb1.trans (hbr.mono hb1.size)
      by_cases hlt : k < N
      · have i2 : (k : Int) < (N : Int) := by omega
        have cmk := fun w' (h : MRow w' mo ms) => cm k hlt w' h
        have mrk := mr.below hbr
        have HB : Hid (fM A ms k = true → cp = (290, k)) := fun q => HC2.out.trans (cm_bad HL.out (by rw [HN.out]; exact hlt) hq.out q)
        have HS : Hid (fM A ms k = false → ∀ i, i < k + 1 → fM A ms i = false) := fun h i hi => by
          rcases (show i < k ∨ i = k by omega) with h' | rfl
          · exact hq.out i h'
          · exact h
        clear cm
        generalize fM A ms k = f at *
        cases f
        · have HQ : Hid (∀ i, i < k + 1 → fM A ms i = false) := HS.out rfl
          clear HS HB
          go_wp2_with (go_at_call 17; refine (cmk _ mrk).mono ?_; rintro e w2 ⟨rfl, b2⟩)
          go_roundg (N - (k + 1))
          case measure => rw [HG.out]; omega
          case rel => exact ⟨k + 1, by omega, rfl, by go_num, HQ, hbr.trans (b2.mono hbr.size)⟩
        · have Hc : Hid (cp = (290, k)) := HB.out rfl
          clear HS HB
          go_wp2_with (go_at_call 17; refine (cmk _ mrk).mono ?_; rintro e w2 ⟨rfl, b2⟩)
          go_ret2
          exact ⟨by rw [Hc.out]; rfl, hbx.trans (b2.mono hbx.size)⟩
      · have e : k = ms.length := by have := HN.out; omega
        have Hc : Hid (cp = (0, 0)) := HC2.out.trans (cm_ok HL.out (by rw [← e]; exact hq.out))
        have i2 : ¬ (k : Int) < (N : Int) := by omega
        clear e
        go_wp2
        go_ret2
        exact ⟨by rw [Hc.out]; rfl, hbx⟩
  · have hne : (c1 != 0) = true := by simpa using hc0
    have HC2 : Hid (cp = (c1, c2)) := HC.out.trans (by rw [if_neg hc0])
    clear HC hc0
    go_wp2_with (go_at_call 16; refine (cj _ hr).mono ?_; rintro e w1 ⟨rfl, b1⟩)
    go_ret2
    exact ⟨by rw [HC2.out]; rfl, hb0.trans (b1.mono hb0.size)⟩
end Go.Proofs.YtomohmjjaijlbaaGreatDoor

namespace Go.Proofs.YtomohmjjaijlbaaGreatDoor
open Go.RowKit

theorem Tryz.info3 : (Tryz.prog.info? 51).map (fun i => (i.zero, i.size, i.bytes)) = some (some (.agg #[.int .i64 0, .int .i64 0, .int .i64 0]), 3, 24) := by kernel_rfl
/-- Places as cells. -/
def pnc : List (Int × Int × Int) → List Value
  | [] => []
  | p :: ps => .int .i64 p.1 :: .int .i64 p.2.1 :: .int .i64 p.2.2 :: pnc ps
theorem pnc_app : ∀ ps qs : List (Int × Int × Int), pnc (ps ++ qs) = pnc ps ++ pnc qs
  | [], _ => rfl
  | p :: ps, qs => by simp only [List.cons_append, pnc, pnc_app ps qs]
theorem pnc_at : ∀ (ps : List (Int × Int × Int)) (j : Nat), j < ps.length → (pnc ps)[j * 3]? = some (.int .i64 (ps.getD j (0, 0, 0)).1) ∧ (pnc ps)[j * 3 + 1]? = some (.int .i64 (ps.getD j (0, 0, 0)).2.1) ∧ (pnc ps)[j * 3 + 2]? = some (.int .i64 (ps.getD j (0, 0, 0)).2.2)
  | [], _, h => by simp at h
  | p :: ps, 0, _ => by simp [pnc]
  | p :: ps, j + 1, h => by
    have := pnc_at ps j (by simpa using h)
    rw [show (j + 1) * 3 = j * 3 + 1 + 1 + 1 by omega]
    simpa [pnc] using this
/-- What Unknowns tells. -/
def unkA (js : List Jn) (ms : List Mb) : (List (Int × Int × Int) × Int) × Int := if (cpA js ms).1 = 0 then (plK js ms js.length, 0) else (([], 0), (cpA js ms).1)
/-- Places that a call hands back. -/
def GavePl (w : World) (x : (List (Int × Int × Int) × Int) × Int) (e : Ending) (w' : World) : Prop :=
  ∃ ao ac, e = .returned (.tuple #[.agg #[.slice ao x.1.1.length ac, .int .i64 x.1.2], .int .i64 x.2]) ∧ P3Row w' ao x.1.1 ∧ Below w.heap.size w w'
/-- A box of three cells. -/
structure T3 (w : World) (b : Nat) (x y z : Value) : Prop where
  c0 : w.cell? ⟨b, 0, none⟩ = some x
  c1 : w.cell? ⟨b, 1, none⟩ = some y
  c2 : w.cell? ⟨b, 2, none⟩ = some z
  f0 : w.frozen? ⟨b, 0, none⟩ = false
  f1 : w.frozen? ⟨b, 1, none⟩ = false
  f2 : w.frozen? ⟨b, 2, none⟩ = false
  lt : b < w.heap.size
theorem T3.new (w : World) (x y z : Value) (t : TypeId) : T3 (w.alloc (.cells #[x, y, z] t)) w.heap.size x y z :=
  ⟨by go_simp, by go_simp, by go_simp, by go_simp, by go_simp, by go_simp, by simp⟩
theorem T3.below {w w' : World} {b : Nat} {x y z : Value} (h : T3 w b x y z) (hb : Below w.heap.size w w') : T3 w' b x y z :=
  ⟨(hb.cell (p := ⟨b, 0, none⟩) h.lt).trans h.c0, (hb.cell (p := ⟨b, 1, none⟩) h.lt).trans h.c1, (hb.cell (p := ⟨b, 2, none⟩) h.lt).trans h.c2, (hb.frozen (p := ⟨b, 0, none⟩) h.lt).trans h.f0, (hb.frozen (p := ⟨b, 1, none⟩) h.lt).trans h.f1, (hb.frozen (p := ⟨b, 2, none⟩) h.lt).trans h.f2, Nat.lt_of_lt_of_le h.lt hb.size⟩
theorem T3.set0 {w : World} {b : Nat} {x y z : Value} (h : T3 w b x y z) (p : Value) : T3 (w.setCell ⟨b, 0, none⟩ p) b p y z := by
  obtain ⟨c0, c1, c2, f0, f1, f2, lt⟩ := h
  exact ⟨by go_simp, by go_simp, by go_simp, by go_simp, by go_simp, by go_simp, by simpa [World.setCell] using lt⟩
theorem T3.set1 {w : World} {b : Nat} {x y z : Value} (h : T3 w b x y z) (p : Value) : T3 (w.setCell ⟨b, 1, none⟩ p) b x p z := by
  obtain ⟨c0, c1, c2, f0, f1, f2, lt⟩ := h
  exact ⟨by go_simp, by go_simp, by go_simp, by go_simp, by go_simp, by go_simp, by simpa [World.setCell] using lt⟩
theorem T3.set2 {w : World} {b : Nat} {x y z : Value} (h : T3 w b x y z) (p : Value) : T3 (w.setCell ⟨b, 2, none⟩ p) b x y p := by
  obtain ⟨c0, c1, c2, f0, f1, f2, lt⟩ := h
  exact ⟨by go_simp, by go_simp, by go_simp, by go_simp, by go_simp, by go_simp, by simpa [World.setCell] using lt⟩
theorem T3.far {w : World} {b g : Nat} {x y z : Value} (h : T3 w b x y z) (hn : b ≠ g) {i : Nat} (a : Value) : T3 (w.setCell ⟨g, i, none⟩ a) b x y z := by
  obtain ⟨c0, c1, c2, f0, f1, f2, lt⟩ := h
  exact ⟨by simp [go_sem, c0], by simp [go_sem, c1], by simp [go_sem, c2], by simp [go_sem, f0], by simp [go_sem, f1], by simp [go_sem, f2], by simpa [World.setCell] using lt⟩
theorem ownp_block {w : World} {B n s k lc : Nat} {e : TypeId} {lo : Option Addr} {xs : List Value} (h : w.ownsRow B e s (.slice lo k lc) n xs) (a : Addr) (ha : lo = some a) : B ≤ a.block ∧ a.block < w.heap.size := by
  rcases h.2 with hn | ⟨g', cap, cur, h1, h2, h3, h4⟩
  · obtain ⟨e1, _⟩ := hn
    cases e1
    cases ha
  · cases h1
    cases ha
    refine ⟨h2, ?_⟩
    rcases Nat.lt_or_ge g' w.heap.size with q | q
    · exact q
    · rw [Array.getElem?_eq_none q] at h3
      cases h3
theorem ownp_far {w : World} {B n s k lc c o : Nat} {e : TypeId} {lo : Option Addr} {xs : List Value} (h : w.ownsRow B e s (.slice lo k lc) n xs) (hc : ∀ a, lo = some a → a.block ≠ c) (u : Value) : (w.setCell ⟨c, o, none⟩ u).ownsRow B e s (.slice lo k lc) n xs := by
  refine ⟨h.1, ?_⟩
  rcases h.2 with hn | ⟨g', cap, cur, h1, h2, h3, h4⟩
  · exact Or.inl hn
  · cases h1
    exact Or.inr ⟨g', _, cur, rfl, h2, by rw [Go.Deep.blk_setCell_other _ _ _ _ (hc _ rfl)]; exact h3, h4⟩
/-- What stands in memory in a round of the document's Unknowns. -/
structure DuS (w1 V : World) (t k : Nat) (lo : Option Addr) (lc : Nat) (xs : List Value) (n x y z : Int) : Prop where
  bx : PBox V w1.heap.size (.slice lo k lc) (.int .i64 n)
  t3 : T3 V t (.int .i64 x) (.int .i64 y) (.int .i64 z)
  own : V.ownsRow (w1.heap.size + 1) 51 3 (.slice lo k lc) k xs
  b : Below w1.heap.size w1 V
  ne : w1.heap.size < t
  al : ∀ a, lo = some a → a.block ≠ t ∧ a.block ≠ w1.heap.size
theorem DuS.below {w1 V V' : World} {t k lc : Nat} {lo : Option Addr} {xs : List Value} {n x y z : Int} (h : DuS w1 V t k lo lc xs n x y z) (hb : Below V.heap.size V V') : DuS w1 V' t k lo lc xs n x y z :=
  ⟨h.bx.below hb, h.t3.below hb, jrown_below h.own hb, h.b.trans (hb.mono h.b.size), h.ne, h.al⟩
theorem DuS.put0 {w1 V : World} {t k lc : Nat} {lo : Option Addr} {xs : List Value} {n x y z : Int} (h : DuS w1 V t k lo lc xs n x y z) (m : Int) : DuS w1 ((V.setCell ⟨t, 0, none⟩ (.int .i64 n)).setCell ⟨w1.heap.size, 1, none⟩ (.int .i64 m)) t k lo lc xs m n y z :=
  ⟨(h.bx.far (Nat.ne_of_lt h.ne) _).set1 _, (h.t3.set0 _).far (Ne.symm (Nat.ne_of_lt h.ne)) _, ownp_far (ownp_far h.own (fun a e => (h.al a e).1) _) (fun a e => (h.al a e).2) _, (h.b.setCell (p := ⟨t, 0, none⟩) (Nat.le_of_lt h.ne) _).setCell (p := ⟨w1.heap.size, 1, none⟩) (Nat.le_refl _) _, h.ne, h.al⟩
theorem DuS.put1 {w1 V : World} {t k lc : Nat} {lo : Option Addr} {xs : List Value} {n x y z : Int} (h : DuS w1 V t k lo lc xs n x y z) (m : Int) : DuS w1 ((V.setCell ⟨t, 1, none⟩ (.int .i64 n)).setCell ⟨w1.heap.size, 1, none⟩ (.int .i64 m)) t k lo lc xs m x n z :=
  ⟨(h.bx.far (Nat.ne_of_lt h.ne) _).set1 _, (h.t3.set1 _).far (Ne.symm (Nat.ne_of_lt h.ne)) _, ownp_far (ownp_far h.own (fun a e => (h.al a e).1) _) (fun a e => (h.al a e).2) _, (h.b.setCell (p := ⟨t, 1, none⟩) (Nat.le_of_lt h.ne) _).setCell (p := ⟨w1.heap.size, 1, none⟩) (Nat.le_refl _) _, h.ne, h.al⟩
theorem DuS.put2 {w1 V : World} {t k lc : Nat} {lo : Option Addr} {xs : List Value} {n x y z : Int} (h : DuS w1 V t k lo lc xs n x y z) (m : Int) : DuS w1 ((V.setCell ⟨t, 2, none⟩ (.int .i64 n)).setCell ⟨w1.heap.size, 1, none⟩ (.int .i64 m)) t k lo lc xs m x y n :=
  ⟨(h.bx.far (Nat.ne_of_lt h.ne) _).set1 _, (h.t3.set2 _).far (Ne.symm (Nat.ne_of_lt h.ne)) _, ownp_far (ownp_far h.own (fun a e => (h.al a e).1) _) (fun a e => (h.al a e).2) _, (h.b.setCell (p := ⟨t, 2, none⟩) (Nat.le_of_lt h.ne) _).setCell (p := ⟨w1.heap.size, 1, none⟩) (Nat.le_refl _) _, h.ne, h.al⟩
theorem PBox.belowB {w w' : World} {b B : Nat} {x y : Value} (h : PBox w b x y) (hl : b < B) (hb : Below B w w') : PBox w' b x y :=
  ⟨(hb.cell (p := ⟨b, 0, none⟩) hl).trans h.c0, (hb.cell (p := ⟨b, 1, none⟩) hl).trans h.c1, (hb.frozen (p := ⟨b, 0, none⟩) hl).trans h.f0, (hb.frozen (p := ⟨b, 1, none⟩) hl).trans h.f1, Nat.lt_of_lt_of_le h.lt hb.size⟩
theorem ownp_shape {w : World} {B k s : Nat} {e : TypeId} {v : Value} {xs : List Value} (h : w.ownsRow B e s v (k + 1) xs) : ∃ g c, v = .slice (some ⟨g, 0, none⟩) (k + 1) c := by
  rcases h.2 with hn | ⟨g', cap, cur, h1, h2, h3, h4⟩
  · exact absurd hn.2 (by omega)
  · exact ⟨g', cap, h1⟩
theorem p3_own {w : World} {B k lc : Nat} {e : TypeId} {lo : Option Addr} {ps : List (Int × Int × Int)} (h : w.ownsRow B e 3 (.slice lo k lc) k (pnc ps)) (hl : ps.length = k) : P3Row w lo ps := by
  rcases Nat.eq_zero_or_pos k with h0 | h0
  · exact Or.inl (hl.trans h0)
  · obtain ⟨q, rfl⟩ : ∃ q, k = q + 1 := ⟨k - 1, by omega⟩
    obtain ⟨g, c, e1⟩ := ownp_shape h
    cases e1
    refine Or.inr ⟨g, 0, rfl, fun j hj => ?_⟩
    have s := pnc_at ps j hj
    have e0 := World.ownsRow.cellAt h (j * 3) (by omega)
    have e1 := World.ownsRow.cellAt h (j * 3 + 1) (by omega)
    have e2 := World.ownsRow.cellAt h (j * 3 + 2) (by omega)
    rw [Nat.zero_add]
    exact ⟨e0.trans s.1, e1.trans s.2.1, e2.trans s.2.2⟩
theorem du_grown {w1 V w5 : World} {t k lc : Nat} {lo : Option Addr} {xs : List Value} {n x y z : Int} {o : Obj} (S : DuS w1 V t k lo lc xs n x y z) (hz : w1.heap.size + 1 ≤ (V.alloc o).heap.size)
    (hg : (V.alloc o).grownBy w5 (Value.slice lo k lc).ownBlock) : PBox w5 w1.heap.size (.slice lo k lc) (.int .i64 n) ∧ Below w1.heap.size w1 w5 ∧ w1.heap.size + 1 ≤ w5.heap.size := by
  have gb : Below (w1.heap.size + 1) (V.alloc o) w5 := (Below.refl _ _).grown hg hz (fun j hj => (S.own.lt j hj).1)
  exact ⟨(S.bx.alloc o).belowB (by omega) gb, (S.b.alloc S.b.size o).trans (gb.mono (by omega)), Nat.le_trans hz gb.size⟩
theorem du_round {w1 V w5 : World} {t k lc g' cap' : Nat} {lo : Option Addr} {pk : List (Int × Int × Int)} {n x y z a b c : Int} (_ : DuS w1 V t k lo lc (pnc pk) n x y z)
    (ho : w5.ownsRow (w1.heap.size + 1) 51 3 (.slice (some ⟨g', 0, none⟩) (k + 1) cap') (k + 1) (pnc pk ++ [.int .i64 a, .int .i64 b, .int .i64 c]))
    (gb : PBox w5 w1.heap.size (.slice lo k lc) (.int .i64 n) ∧ Below w1.heap.size w1 w5 ∧ w1.heap.size + 1 ≤ w5.heap.size) :
    PBox (w5.setCell ⟨w1.heap.size, 0, none⟩ (.slice (some ⟨g', 0, none⟩) (k + 1) cap')) w1.heap.size (.slice (some ⟨g', 0, none⟩) (k + 1) cap') (.int .i64 n) ∧
    (w5.setCell ⟨w1.heap.size, 0, none⟩ (.slice (some ⟨g', 0, none⟩) (k + 1) cap')).ownsRow (w1.heap.size + 1) 51 3 (.slice (some ⟨g', 0, none⟩) (k + 1) cap') (k + 1) (pnc (pk ++ [(a, b, c)])) ∧
    Below w1.heap.size w1 (w5.setCell ⟨w1.heap.size, 0, none⟩ (.slice (some ⟨g', 0, none⟩) (k + 1) cap')) ∧
    w1.heap.size + 1 ≤ (w5.setCell ⟨w1.heap.size, 0, none⟩ (.slice (some ⟨g', 0, none⟩) (k + 1) cap')).heap.size := by
  refine ⟨gb.1.set0 _, ?_, gb.2.1.setCell (p := ⟨w1.heap.size, 0, none⟩) (Nat.le_refl _) _, by simpa [World.setCell] using gb.2.2⟩
  rw [pnc_app]
  exact ownp_far ho (fun q e => by have := (ownp_block ho q e).1; omega) _
end Go.Proofs.YtomohmjjaijlbaaGreatDoor

namespace Go.Proofs.YtomohmjjaijlbaaGreatDoor
open Go.RowKit

set_option maxRecDepth 100000 in
set_option maxHeartbeats 8000000 in
theorem dunk_any (js : List Jn) (ms : List Mb) (ao mo : Option Addr) (ac mc : Nat) (w : World) (hr : JRow w ao js) (hw : JWs js) (hn : js.length ≤ 1125899906842624) (mr : MRow w mo ms) (mw : MWs ms) (mn : ms.length ≤ 1125899906842624) :
    Calls Tryz.prog 8 #[.agg #[.slice ao js.length ac, .slice mo ms.length mc]] w (GavePl w (unkA js ms)) := by
  have cc := fun w' (hb : Below w.heap.size w w') => dbcheck_any js ms ao mo ac mc w' (hr.below hb) hw hn (mr.below hb) mw mn
  have ct := fun w' q (hb : Below w.heap.size w w') => turns_any ms js.length q ao mo ac mc w' (mr.below hb) mn
  have HU : Hid (unkA js ms = if (cpA js ms).1 = 0 then (plK js ms js.length, 0) else (([], 0), (cpA js ms).1)) := (show _ = _ from rfl)
  obtain ⟨N, hN⟩ : ∃ N, ms.length = N := ⟨_, rfl⟩
  obtain ⟨A, hA⟩ : ∃ A, js.length = A := ⟨_, rfl⟩
  have HA : Hid (js.length = A) := hA
  rw [hN] at cc ct ⊢
  rw [hA] at cc ct hn HU ⊢
  have h16 : (cpA js ms).1 = 0 → js.length ≤ 16 := fun h => by
    rcases Nat.lt_or_ge 16 js.length with q | q
    · unfold cpA at h
      rw [ck_long q] at h
      simp at h
    · exact q
  rw [hA] at h16
  generalize unkA js ms = un at *
  obtain ⟨⟨c1, c2⟩, hc⟩ : ∃ c, cpA js ms = c := ⟨_, rfl⟩
  rw [hc] at cc HU h16
  simp only at cc HU h16
  have X0 := (PBox.new w (.slice ao A ac) (.slice mo N mc) 25).alloc (.cells #[.slice none 0 0, .int .i64 0] 32)
  have X1 := PBox.new (w.alloc (.cells #[.slice ao A ac, .slice mo N mc] 25)) (.slice none 0 0) (.int .i64 0) 32
  have hs1 : (w.alloc (.cells #[.slice ao A ac, .slice mo N mc] 25)).heap.size = w.heap.size + 1 := by simp
  rw [hs1] at X1
  have hb0 : Below w.heap.size w ((w.alloc (.cells #[.slice ao A ac, .slice mo N mc] 25)).alloc (.cells #[.slice none 0 0, .int .i64 0] 32)) := ((Below.refl _ _).alloc (Nat.le_refl _) _).alloc (by rw [hs1]; omega) _
  clear hN hA hc mr mw mn hw
  go_enter Tryz.func8, Tryz.ntmps8
  go_upto_region 1 with fail
  clear hs1
  generalize (w.alloc (.cells #[.slice ao A ac, .slice mo N mc] 25)).alloc (.cells #[.slice none 0 0, .int .i64 0] 32) = U0 at *
  obtain ⟨x0, x1, _, _, _⟩ := id X0
  go_upto_region 2 with (go_at_call 6; refine (cc _ hb0).mono ?_; rintro e w1 ⟨rfl, b1⟩)
  replace X0 := X0.below b1
  replace X1 := X1.below b1
  have hb1 := hb0.trans (b1.mono hb0.size)
  clear x0 x1 cc hb0 b1
  by_cases hc0 : c1 = 0
  case neg =>
    have hne : (c1 != 0) = true := by simpa using hc0
    have HC2 : Hid (un = (([], 0), c1)) := HU.out.trans (by rw [if_neg hc0])
    obtain ⟨y0, y1, f0, f1, _⟩ := id X1
    clear HU hc0
    go_wp2
    refine bodyPost_ret (v := .tuple #[.agg #[.slice none 0 0, .int .i64 0], .int .i64 c1]) (by simp [results, Tryz.results8, go_sem, y0, y1]) rfl ?_
    rw [HC2.out]
    exact ⟨none, 0, rfl, Or.inl rfl, (hb1.setCell (p := ⟨w.heap.size + 1, 0, none⟩) (by simp) _).setCell (p := ⟨w.heap.size + 1, 1, none⟩) (by simp) _⟩
  have hA16 := h16 hc0
  clear h16
  subst hc0
  have HC2 : Hid (un = (plK js ms A, 0)) := HU.out.trans (by rw [if_pos rfl])
  clear HU
  obtain ⟨i0, hi, hz0, hz1, hz2⟩ := info_span Tryz.info3
  have O0 := PBox.new w1 (.slice none 0 0) (.int .i64 0) 32
  have hb2 : Below w1.heap.size w1 (w1.alloc (.cells #[.slice none 0 0, .int .i64 0] 32)) := (Below.refl _ _).alloc (Nat.le_refl _) _
  have hz2' : w1.heap.size + 1 ≤ (w1.alloc (.cells #[.slice none 0 0, .int .i64 0] 32)).heap.size := by simp
  have hown : (w1.alloc (.cells #[.slice none 0 0, .int .i64 0] 32)).ownsRow (w1.heap.size + 1) 51 3 (.slice none 0 0) 0 (pnc (plK js ms 0).1) := ⟨rfl, Or.inl ⟨rfl, rfl⟩⟩
  have hjr := hr.below hb1
  go_upto_region 5 with fail
  generalize w1.alloc (.cells #[.slice none 0 0, .int .i64 0] 32) = V0 at *
  go_upto_region 6 with fail
  clear hr
  go_loopg [7] A (fun g v wr => ∃ (k : Nat) (lo : Option Addr) (lc : Nat), k ≤ A ∧ g = A - k ∧ v = .int .i64 k ∧ PBox wr w1.heap.size (.slice lo k lc) (.int .i64 (plK js ms k).2) ∧ wr.ownsRow (w1.heap.size + 1) 51 3 (.slice lo k lc) k (pnc (plK js ms k).1) ∧ Below w1.heap.size w1 wr ∧ w1.heap.size + 1 ≤ wr.heap.size)
  case atStart => exact ⟨0, none, 0, by omega, rfl, rfl, O0, hown, hb2, hz2'⟩
  case round =>
    obtain ⟨k, lo, lc, hk, hg, rfl, B0, hO, hbr, hz⟩ := hrel
    have HG : Hid (gk = A - k) := hg
    clear hg O0 hown hb2 hz2'
    obtain ⟨x0, x1, _, _, _⟩ := X0.below hbr
    obtain ⟨o0, o1, f0, f1, _⟩ := id B0
    have hbx := hb1.trans (hbr.mono hb1.size)
    by_cases hlt : k < A
    · rcases hjr.below hbr with h | ⟨b, off, rfl, hc⟩
      · exact absurd (HA.out ▸ h) (by omega)
      · obtain ⟨_, _, _, g3⟩ := hc k (by rw [HA.out]; exact hlt)
        obtain ⟨f, ef⟩ : ∃ f, (js.getD k jz).2.2.2 = f := ⟨_, rfl⟩
        rw [ef] at g3
        have i1 : (k : Int) < (A : Int) := by omega
        have hbl : b < wr.heap.size := World.block_lt_of_cell? _ _ g3
        have n1 : b ≠ wr.heap.size := by omega
        clear hc
        have hT := T3.new wr (.int .i64 (-1)) (.int .i64 (-1)) (.int .i64 (-1)) 51
        have st : Below wr.heap.size wr (wr.alloc (.cells #[.int .i64 (-1), .int .i64 (-1), .int .i64 (-1)] 51)) := (Below.refl _ _).alloc (Nat.le_refl _) _
        have hlo := fun a ha => ownp_block hO a ha
        have S : DuS w1 (wr.alloc (.cells #[.int .i64 (-1), .int .i64 (-1), .int .i64 (-1)] 51)) wr.heap.size k lo lc (pnc (plK js ms k).1) (plK js ms k).2 (-1) (-1) (-1) :=
          ⟨B0.below st, hT, jrown_below hO st, hbr.trans (st.mono hbr.size), by omega, fun a ha => ⟨by have := hlo a ha; omega, by have := hlo a ha; omega⟩⟩
        have Hlo : Hid (∀ a, lo = some a → w1.heap.size + 1 ≤ a.block) := fun a ha => (hlo a ha).1
        have hnn := plK_le js ms k
        have HP : Hid (plK js ms (k + 1) = ((plK js ms k).1 ++ [(plN (plK js ms k).2 (freB f (tnB ms k))).1], (plN (plK js ms k).2 (freB f (tnB ms k))).2)) := (show _ = _ by rw [plK, ef])
        have ctk := fun V (h : Below w1.heap.size w1 V) => ct V k (hb1.trans (h.mono hb1.size))
        go_upto_region 10 with fail
        clear x0 x1 o0 o1 f0 f1 g3 st hT hlo hO B0 hbr ef n1 hbl ct hbx
        generalize wr.alloc (.cells #[.int .i64 (-1), .int .i64 (-1), .int .i64 (-1)] 51) = V1 at *
        have ht1 : w1.heap.size + 1 ≤ wr.heap.size := hz
        clear hz
        generalize wr.heap.size = t at *
        generalize (plK js ms k).2 = n at *
        generalize (plK js ms k).1 = pk at *
        generalize tnB ms k = tq at *
        have w1' : IntKind.i64.wrap (n + 1) = n + 1 := by rw [IntKind.wrap_i64]; omega
        have w2' : IntKind.i64.wrap (n + 1 + 1) = n + 1 + 1 := by rw [IntKind.wrap_i64]; omega
        have w3' : IntKind.i64.wrap (n + 1 + 1 + 1) = n + 1 + 1 + 1 := by rw [IntKind.wrap_i64]; omega
        obtain ⟨⟨o0, o1, f0, f1, _⟩, ⟨t0, t1, t2, q0, q1, q2, _⟩, _, bb, _, _⟩ := id S
        obtain ⟨x0, x1, _, _, _⟩ := X0.below bb
        by_cases b0 : f % 2 = 0
        · have e0 : ((f : Int) % 2 == 0) = true := by simp; omega
          go_upto_region 13 with fail
          replace S := S.put0 (n + 1)
          clear o0 o1 f0 f1 t0 t1 t2 q0 q1 q2 bb x0 x1
          generalize (V1.setCell ⟨t, 0, none⟩ (.int .i64 (n))).setCell ⟨w1.heap.size, 1, none⟩ (.int .i64 (n + 1)) = V1 at *
          obtain ⟨⟨o0, o1, f0, f1, _⟩, ⟨t0, t1, t2, q0, q1, q2, _⟩, _, bb, _, _⟩ := id S
          obtain ⟨x0, x1, _, _, _⟩ := X0.below bb
          by_cases b1 : f / 2 % 2 = 0
          · have e1 : ((f : Int) / 2 % 2 == 0) = true := by simp; omega
            go_upto_region 16 with fail
            replace S := S.put1 (n + 1 + 1)
            clear o0 o1 f0 f1 t0 t1 t2 q0 q1 q2 bb x0 x1
            generalize (V1.setCell ⟨t, 1, none⟩ (.int .i64 (n + 1))).setCell ⟨w1.heap.size, 1, none⟩ (.int .i64 (n + 1 + 1)) = V1 at *
            obtain ⟨⟨o0, o1, f0, f1, _⟩, ⟨t0, t1, t2, q0, q1, q2, _⟩, _, bb, _, _⟩ := id S
            obtain ⟨x0, x1, _, _, _⟩ := X0.below bb
            by_cases b2 : f / 4 % 2 = 0
            · have e2 : ((f : Int) / 4 % 2 == 0) = true := by simp; omega
              cases tq
              · go_upto_region 19 with (go_at_call 19; refine (ctk _ S.b).mono ?_; rintro e w2 ⟨rfl, b2w⟩; have S2 := S.below b2w; obtain ⟨⟨o0', o1', f0', f1', _⟩, ⟨t0', t1', t2', q0', q1', q2', _⟩, _, bb', _, _⟩ := id S2; obtain ⟨x0', x1', _, _, _⟩ := X0.below bb')
                replace S := S2
                clear o0 o1 f0 f1 t0 t1 t2 q0 q1 q2 bb x0 x1 o0' o1' f0' f1' t0' t1' t2' q0' q1' q2' bb' x0' x1' b2w S2
                have HQ : Hid (plK js ms (k + 1) = (pk ++ [(n, n + 1, -1)], n + 1 + 1)) := HP.out.trans (by rw [show freB f _ = (true, true, false) by unfold freB; simp [b0, b1, b2]]; rfl)
                clear HP b0 b1 b2
                obtain ⟨⟨o0, o1, f0, f1, _⟩, ⟨t0, t1, t2, q0, q1, q2, _⟩, _, bb, _, _⟩ := id S
                obtain ⟨x0, x1, _, _, _⟩ := X0.below bb
                have hsz : w1.heap.size + 1 ≤ (w2.alloc (.cells #[.int .i64 (n), .int .i64 (n + 1), .int .i64 (-1)] 51)).heap.size := by have := S.bx.lt; simp; omega
                go_wp2_with (at_builtin; refine wpList_append_own _ rfl _ _ 30 rfl (w1.heap.size + 1) 51 i0 (.agg #[.int .i64 0, .int .i64 0, .int .i64 0]) 3 24 Tryz.underlying30 hi hz0 hz1 hz2 rfl (by decide) _ _ _ rfl (World.ownsRow.alloc S.own _) _ 1 1 [.int .i64 (n), .int .i64 (n + 1), .int .i64 (-1)] rfl rfl (World.news_of_block (cs := #[.int .i64 (n), .int .i64 (n + 1), .int .i64 (-1)]) (t := 51) (fr := (0, 0)) (heap_alloc_new _ _)) (by simp [Value.oneCell']) (by unfold maxLen; omega) (by omega) hsz ?_; intro v' w5 hown5 hgrow _; obtain ⟨g', cap', rfl⟩ := ownp_shape hown5; have gb := du_grown S hsz hgrow; obtain ⟨u0, u1, s0, s1, _⟩ := id gb.1)
                have R := du_round S hown5 gb
                clear S gb hown5 hgrow
                go_roundg (A - (k + 1))
                case measure => rw [HG.out]; omega
                case rel => exact ⟨k + 1, _, _, by omega, rfl, by go_num, by rw [HQ.out]; exact R.1, by rw [HQ.out]; exact R.2.1, R.2.2.1, R.2.2.2⟩
              · go_upto_region 19 with (go_at_call 19; refine (ctk _ S.b).mono ?_; rintro e w2 ⟨rfl, b2w⟩; have S2 := S.below b2w; obtain ⟨⟨o0', o1', f0', f1', _⟩, ⟨t0', t1', t2', q0', q1', q2', _⟩, _, bb', _, _⟩ := id S2; obtain ⟨x0', x1', _, _, _⟩ := X0.below bb')
                replace S := S2.put2 (n + 1 + 1 + 1)
                clear o0 o1 f0 f1 t0 t1 t2 q0 q1 q2 bb x0 x1 o0' o1' f0' f1' t0' t1' t2' q0' q1' q2' bb' x0' x1'
                generalize (w2.setCell ⟨t, 2, none⟩ (.int .i64 (n + 1 + 1))).setCell ⟨w1.heap.size, 1, none⟩ (.int .i64 (n + 1 + 1 + 1)) = V1 at *
                have HQ : Hid (plK js ms (k + 1) = (pk ++ [(n, n + 1, n + 1 + 1)], n + 1 + 1 + 1)) := HP.out.trans (by rw [show freB f _ = (true, true, true) by unfold freB; simp [b0, b1, b2]]; rfl)
                clear HP b0 b1 b2
                obtain ⟨⟨o0, o1, f0, f1, _⟩, ⟨t0, t1, t2, q0, q1, q2, _⟩, _, bb, _, _⟩ := id S
                obtain ⟨x0, x1, _, _, _⟩ := X0.below bb
                have hsz : w1.heap.size + 1 ≤ (V1.alloc (.cells #[.int .i64 (n), .int .i64 (n + 1), .int .i64 (n + 1 + 1)] 51)).heap.size := by have := S.bx.lt; simp; omega
                go_wp2_with (at_builtin; refine wpList_append_own _ rfl _ _ 30 rfl (w1.heap.size + 1) 51 i0 (.agg #[.int .i64 0, .int .i64 0, .int .i64 0]) 3 24 Tryz.underlying30 hi hz0 hz1 hz2 rfl (by decide) _ _ _ rfl (World.ownsRow.alloc S.own _) _ 1 1 [.int .i64 (n), .int .i64 (n + 1), .int .i64 (n + 1 + 1)] rfl rfl (World.news_of_block (cs := #[.int .i64 (n), .int .i64 (n + 1), .int .i64 (n + 1 + 1)]) (t := 51) (fr := (0, 0)) (heap_alloc_new _ _)) (by simp [Value.oneCell']) (by unfold maxLen; omega) (by omega) hsz ?_; intro v' w5 hown5 hgrow _; obtain ⟨g', cap', rfl⟩ := ownp_shape hown5; have gb := du_grown S hsz hgrow; obtain ⟨u0, u1, s0, s1, _⟩ := id gb.1)
                have R := du_round S hown5 gb
                clear S gb hown5 hgrow
                go_roundg (A - (k + 1))
                case measure => rw [HG.out]; omega
                case rel => exact ⟨k + 1, _, _, by omega, rfl, by go_num, by rw [HQ.out]; exact R.1, by rw [HQ.out]; exact R.2.1, R.2.2.1, R.2.2.2⟩
            · have e2 : ((f : Int) / 4 % 2 == 0) = false := by simp; omega
              go_upto_region 19 with fail
              clear o0 o1 f0 f1 t0 t1 t2 q0 q1 q2 bb x0 x1
              have HQ : Hid (plK js ms (k + 1) = (pk ++ [(n, n + 1, -1)], n + 1 + 1)) := HP.out.trans (by rw [show freB f _ = (true, true, false) by unfold freB; simp [b0, b1, b2]]; rfl)
              clear HP b0 b1 b2
              obtain ⟨⟨o0, o1, f0, f1, _⟩, ⟨t0, t1, t2, q0, q1, q2, _⟩, _, bb, _, _⟩ := id S
              obtain ⟨x0, x1, _, _, _⟩ := X0.below bb
              have hsz : w1.heap.size + 1 ≤ (V1.alloc (.cells #[.int .i64 (n), .int .i64 (n + 1), .int .i64 (-1)] 51)).heap.size := by have := S.bx.lt; simp; omega
              go_wp2_with (at_builtin; refine wpList_append_own _ rfl _ _ 30 rfl (w1.heap.size + 1) 51 i0 (.agg #[.int .i64 0, .int .i64 0, .int .i64 0]) 3 24 Tryz.underlying30 hi hz0 hz1 hz2 rfl (by decide) _ _ _ rfl (World.ownsRow.alloc S.own _) _ 1 1 [.int .i64 (n), .int .i64 (n + 1), .int .i64 (-1)] rfl rfl (World.news_of_block (cs := #[.int .i64 (n), .int .i64 (n + 1), .int .i64 (-1)]) (t := 51) (fr := (0, 0)) (heap_alloc_new _ _)) (by simp [Value.oneCell']) (by unfold maxLen; omega) (by omega) hsz ?_; intro v' w5 hown5 hgrow _; obtain ⟨g', cap', rfl⟩ := ownp_shape hown5; have gb := du_grown S hsz hgrow; obtain ⟨u0, u1, s0, s1, _⟩ := id gb.1)
              have R := du_round S hown5 gb
              clear S gb hown5 hgrow
              go_roundg (A - (k + 1))
              case measure => rw [HG.out]; omega
              case rel => exact ⟨k + 1, _, _, by omega, rfl, by go_num, by rw [HQ.out]; exact R.1, by rw [HQ.out]; exact R.2.1, R.2.2.1, R.2.2.2⟩
          · have e1 : ((f : Int) / 2 % 2 == 0) = false := by simp; omega
            go_upto_region 16 with fail
            clear o0 o1 f0 f1 t0 t1 t2 q0 q1 q2 bb x0 x1
            obtain ⟨⟨o0, o1, f0, f1, _⟩, ⟨t0, t1, t2, q0, q1, q2, _⟩, _, bb, _, _⟩ := id S
            obtain ⟨x0, x1, _, _, _⟩ := X0.below bb
            by_cases b2 : f / 4 % 2 = 0
            · have e2 : ((f : Int) / 4 % 2 == 0) = true := by simp; omega
              cases tq
              · go_upto_region 19 with (go_at_call 19; refine (ctk _ S.b).mono ?_; rintro e w2 ⟨rfl, b2w⟩; have S2 := S.below b2w; obtain ⟨⟨o0', o1', f0', f1', _⟩, ⟨t0', t1', t2', q0', q1', q2', _⟩, _, bb', _, _⟩ := id S2; obtain ⟨x0', x1', _, _, _⟩ := X0.below bb')
                replace S := S2
                clear o0 o1 f0 f1 t0 t1 t2 q0 q1 q2 bb x0 x1 o0' o1' f0' f1' t0' t1' t2' q0' q1' q2' bb' x0' x1' b2w S2
                have HQ : Hid (plK js ms (k + 1) = (pk ++ [(n, -1, -1)], n + 1)) := HP.out.trans (by rw [show freB f _ = (true, false, false) by unfold freB; simp [b0, b1, b2]]; rfl)
                clear HP b0 b1 b2
                obtain ⟨⟨o0, o1, f0, f1, _⟩, ⟨t0, t1, t2, q0, q1, q2, _⟩, _, bb, _, _⟩ := id S
                obtain ⟨x0, x1, _, _, _⟩ := X0.below bb
                have hsz : w1.heap.size + 1 ≤ (w2.alloc (.cells #[.int .i64 (n), .int .i64 (-1), .int .i64 (-1)] 51)).heap.size := by have := S.bx.lt; simp; omega
                go_wp2_with (at_builtin; refine wpList_append_own _ rfl _ _ 30 rfl (w1.heap.size + 1) 51 i0 (.agg #[.int .i64 0, .int .i64 0, .int .i64 0]) 3 24 Tryz.underlying30 hi hz0 hz1 hz2 rfl (by decide) _ _ _ rfl (World.ownsRow.alloc S.own _) _ 1 1 [.int .i64 (n), .int .i64 (-1), .int .i64 (-1)] rfl rfl (World.news_of_block (cs := #[.int .i64 (n), .int .i64 (-1), .int .i64 (-1)]) (t := 51) (fr := (0, 0)) (heap_alloc_new _ _)) (by simp [Value.oneCell']) (by unfold maxLen; omega) (by omega) hsz ?_; intro v' w5 hown5 hgrow _; obtain ⟨g', cap', rfl⟩ := ownp_shape hown5; have gb := du_grown S hsz hgrow; obtain ⟨u0, u1, s0, s1, _⟩ := id gb.1)
                have R := du_round S hown5 gb
                clear S gb hown5 hgrow
                go_roundg (A - (k + 1))
                case measure => rw [HG.out]; omega
                case rel => exact ⟨k + 1, _, _, by omega, rfl, by go_num, by rw [HQ.out]; exact R.1, by rw [HQ.out]; exact R.2.1, R.2.2.1, R.2.2.2⟩
              · go_upto_region 19 with (go_at_call 19; refine (ctk _ S.b).mono ?_; rintro e w2 ⟨rfl, b2w⟩; have S2 := S.below b2w; obtain ⟨⟨o0', o1', f0', f1', _⟩, ⟨t0', t1', t2', q0', q1', q2', _⟩, _, bb', _, _⟩ := id S2; obtain ⟨x0', x1', _, _, _⟩ := X0.below bb')
                replace S := S2.put2 (n + 1 + 1)
                clear o0 o1 f0 f1 t0 t1 t2 q0 q1 q2 bb x0 x1 o0' o1' f0' f1' t0' t1' t2' q0' q1' q2' bb' x0' x1'
                generalize (w2.setCell ⟨t, 2, none⟩ (.int .i64 (n + 1))).setCell ⟨w1.heap.size, 1, none⟩ (.int .i64 (n + 1 + 1)) = V1 at *
                have HQ : Hid (plK js ms (k + 1) = (pk ++ [(n, -1, n + 1)], n + 1 + 1)) := HP.out.trans (by rw [show freB f _ = (true, false, true) by unfold freB; simp [b0, b1, b2]]; rfl)
                clear HP b0 b1 b2
                obtain ⟨⟨o0, o1, f0, f1, _⟩, ⟨t0, t1, t2, q0, q1, q2, _⟩, _, bb, _, _⟩ := id S
                obtain ⟨x0, x1, _, _, _⟩ := X0.below bb
                have hsz : w1.heap.size + 1 ≤ (V1.alloc (.cells #[.int .i64 (n), .int .i64 (-1), .int .i64 (n + 1)] 51)).heap.size := by have := S.bx.lt; simp; omega
                go_wp2_with (at_builtin; refine wpList_append_own _ rfl _ _ 30 rfl (w1.heap.size + 1) 51 i0 (.agg #[.int .i64 0, .int .i64 0, .int .i64 0]) 3 24 Tryz.underlying30 hi hz0 hz1 hz2 rfl (by decide) _ _ _ rfl (World.ownsRow.alloc S.own _) _ 1 1 [.int .i64 (n), .int .i64 (-1), .int .i64 (n + 1)] rfl rfl (World.news_of_block (cs := #[.int .i64 (n), .int .i64 (-1), .int .i64 (n + 1)]) (t := 51) (fr := (0, 0)) (heap_alloc_new _ _)) (by simp [Value.oneCell']) (by unfold maxLen; omega) (by omega) hsz ?_; intro v' w5 hown5 hgrow _; obtain ⟨g', cap', rfl⟩ := ownp_shape hown5; have gb := du_grown S hsz hgrow; obtain ⟨u0, u1, s0, s1, _⟩ := id gb.1)
                have R := du_round S hown5 gb
                clear S gb hown5 hgrow
                go_roundg (A - (k + 1))
                case measure => rw [HG.out]; omega
                case rel => exact ⟨k + 1, _, _, by omega, rfl, by go_num, by rw [HQ.out]; exact R.1, by rw [HQ.out]; exact R.2.1, R.2.2.1, R.2.2.2⟩
            · have e2 : ((f : Int) / 4 % 2 == 0) = false := by simp; omega
              go_upto_region 19 with fail
              clear o0 o1 f0 f1 t0 t1 t2 q0 q1 q2 bb x0 x1
              have HQ : Hid (plK js ms (k + 1) = (pk ++ [(n, -1, -1)], n + 1)) := HP.out.trans (by rw [show freB f _ = (true, false, false) by unfold freB; simp [b0, b1, b2]]; rfl)
              clear HP b0 b1 b2
              obtain ⟨⟨o0, o1, f0, f1, _⟩, ⟨t0, t1, t2, q0, q1, q2, _⟩, _, bb, _, _⟩ := id S
              obtain ⟨x0, x1, _, _, _⟩ := X0.below bb
              have hsz : w1.heap.size + 1 ≤ (V1.alloc (.cells #[.int .i64 (n), .int .i64 (-1), .int .i64 (-1)] 51)).heap.size := by have := S.bx.lt; simp; omega
              go_wp2_with (at_builtin; refine wpList_append_own _ rfl _ _ 30 rfl (w1.heap.size + 1) 51 i0 (.agg #[.int .i64 0, .int .i64 0, .int .i64 0]) 3 24 Tryz.underlying30 hi hz0 hz1 hz2 rfl (by decide) _ _ _ rfl (World.ownsRow.alloc S.own _) _ 1 1 [.int .i64 (n), .int .i64 (-1), .int .i64 (-1)] rfl rfl (World.news_of_block (cs := #[.int .i64 (n), .int .i64 (-1), .int .i64 (-1)]) (t := 51) (fr := (0, 0)) (heap_alloc_new _ _)) (by simp [Value.oneCell']) (by unfold maxLen; omega) (by omega) hsz ?_; intro v' w5 hown5 hgrow _; obtain ⟨g', cap', rfl⟩ := ownp_shape hown5; have gb := du_grown S hsz hgrow; obtain ⟨u0, u1, s0, s1, _⟩ := id gb.1)
              have R := du_round S hown5 gb
              clear S gb hown5 hgrow
              go_roundg (A - (k + 1))
              case measure => rw [HG.out]; omega
              case rel => exact ⟨k + 1, _, _, by omega, rfl, by go_num, by rw [HQ.out]; exact R.1, by rw [HQ.out]; exact R.2.1, R.2.2.1, R.2.2.2⟩
        · have e0 : ((f : Int) % 2 == 0) = false := by simp; omega
          go_upto_region 13 with fail
          clear o0 o1 f0 f1 t0 t1 t2 q0 q1 q2 bb x0 x1
          obtain ⟨⟨o0, o1, f0, f1, _⟩, ⟨t0, t1, t2, q0, q1, q2, _⟩, _, bb, _, _⟩ := id S
          obtain ⟨x0, x1, _, _, _⟩ := X0.below bb
          by_cases b1 : f / 2 % 2 = 0
          · have e1 : ((f : Int) / 2 % 2 == 0) = true := by simp; omega
            go_upto_region 16 with fail
            replace S := S.put1 (n + 1)
            clear o0 o1 f0 f1 t0 t1 t2 q0 q1 q2 bb x0 x1
            generalize (V1.setCell ⟨t, 1, none⟩ (.int .i64 (n))).setCell ⟨w1.heap.size, 1, none⟩ (.int .i64 (n + 1)) = V1 at *
            obtain ⟨⟨o0, o1, f0, f1, _⟩, ⟨t0, t1, t2, q0, q1, q2, _⟩, _, bb, _, _⟩ := id S
            obtain ⟨x0, x1, _, _, _⟩ := X0.below bb
            by_cases b2 : f / 4 % 2 = 0
            · have e2 : ((f : Int) / 4 % 2 == 0) = true := by simp; omega
              cases tq
              · go_upto_region 19 with (go_at_call 19; refine (ctk _ S.b).mono ?_; rintro e w2 ⟨rfl, b2w⟩; have S2 := S.below b2w; obtain ⟨⟨o0', o1', f0', f1', _⟩, ⟨t0', t1', t2', q0', q1', q2', _⟩, _, bb', _, _⟩ := id S2; obtain ⟨x0', x1', _, _, _⟩ := X0.below bb')
                replace S := S2
                clear o0 o1 f0 f1 t0 t1 t2 q0 q1 q2 bb x0 x1 o0' o1' f0' f1' t0' t1' t2' q0' q1' q2' bb' x0' x1' b2w S2
                have HQ : Hid (plK js ms (k + 1) = (pk ++ [(-1, n, -1)], n + 1)) := HP.out.trans (by rw [show freB f _ = (false, true, false) by unfold freB; simp [b0, b1, b2]]; rfl)
                clear HP b0 b1 b2
                obtain ⟨⟨o0, o1, f0, f1, _⟩, ⟨t0, t1, t2, q0, q1, q2, _⟩, _, bb, _, _⟩ := id S
                obtain ⟨x0, x1, _, _, _⟩ := X0.below bb
                have hsz : w1.heap.size + 1 ≤ (w2.alloc (.cells #[.int .i64 (-1), .int .i64 (n), .int .i64 (-1)] 51)).heap.size := by have := S.bx.lt; simp; omega
                go_wp2_with (at_builtin; refine wpList_append_own _ rfl _ _ 30 rfl (w1.heap.size + 1) 51 i0 (.agg #[.int .i64 0, .int .i64 0, .int .i64 0]) 3 24 Tryz.underlying30 hi hz0 hz1 hz2 rfl (by decide) _ _ _ rfl (World.ownsRow.alloc S.own _) _ 1 1 [.int .i64 (-1), .int .i64 (n), .int .i64 (-1)] rfl rfl (World.news_of_block (cs := #[.int .i64 (-1), .int .i64 (n), .int .i64 (-1)]) (t := 51) (fr := (0, 0)) (heap_alloc_new _ _)) (by simp [Value.oneCell']) (by unfold maxLen; omega) (by omega) hsz ?_; intro v' w5 hown5 hgrow _; obtain ⟨g', cap', rfl⟩ := ownp_shape hown5; have gb := du_grown S hsz hgrow; obtain ⟨u0, u1, s0, s1, _⟩ := id gb.1)
                have R := du_round S hown5 gb
                clear S gb hown5 hgrow
                go_roundg (A - (k + 1))
                case measure => rw [HG.out]; omega
                case rel => exact ⟨k + 1, _, _, by omega, rfl, by go_num, by rw [HQ.out]; exact R.1, by rw [HQ.out]; exact R.2.1, R.2.2.1, R.2.2.2⟩
              · go_upto_region 19 with (go_at_call 19; refine (ctk _ S.b).mono ?_; rintro e w2 ⟨rfl, b2w⟩; have S2 := S.below b2w; obtain ⟨⟨o0', o1', f0', f1', _⟩, ⟨t0', t1', t2', q0', q1', q2', _⟩, _, bb', _, _⟩ := id S2; obtain ⟨x0', x1', _, _, _⟩ := X0.below bb')
                replace S := S2.put2 (n + 1 + 1)
                clear o0 o1 f0 f1 t0 t1 t2 q0 q1 q2 bb x0 x1 o0' o1' f0' f1' t0' t1' t2' q0' q1' q2' bb' x0' x1'
                generalize (w2.setCell ⟨t, 2, none⟩ (.int .i64 (n + 1))).setCell ⟨w1.heap.size, 1, none⟩ (.int .i64 (n + 1 + 1)) = V1 at *
                have HQ : Hid (plK js ms (k + 1) = (pk ++ [(-1, n, n + 1)], n + 1 + 1)) := HP.out.trans (by rw [show freB f _ = (false, true, true) by unfold freB; simp [b0, b1, b2]]; rfl)
                clear HP b0 b1 b2
                obtain ⟨⟨o0, o1, f0, f1, _⟩, ⟨t0, t1, t2, q0, q1, q2, _⟩, _, bb, _, _⟩ := id S
                obtain ⟨x0, x1, _, _, _⟩ := X0.below bb
                have hsz : w1.heap.size + 1 ≤ (V1.alloc (.cells #[.int .i64 (-1), .int .i64 (n), .int .i64 (n + 1)] 51)).heap.size := by have := S.bx.lt; simp; omega
                go_wp2_with (at_builtin; refine wpList_append_own _ rfl _ _ 30 rfl (w1.heap.size + 1) 51 i0 (.agg #[.int .i64 0, .int .i64 0, .int .i64 0]) 3 24 Tryz.underlying30 hi hz0 hz1 hz2 rfl (by decide) _ _ _ rfl (World.ownsRow.alloc S.own _) _ 1 1 [.int .i64 (-1), .int .i64 (n), .int .i64 (n + 1)] rfl rfl (World.news_of_block (cs := #[.int .i64 (-1), .int .i64 (n), .int .i64 (n + 1)]) (t := 51) (fr := (0, 0)) (heap_alloc_new _ _)) (by simp [Value.oneCell']) (by unfold maxLen; omega) (by omega) hsz ?_; intro v' w5 hown5 hgrow _; obtain ⟨g', cap', rfl⟩ := ownp_shape hown5; have gb := du_grown S hsz hgrow; obtain ⟨u0, u1, s0, s1, _⟩ := id gb.1)
                have R := du_round S hown5 gb
                clear S gb hown5 hgrow
                go_roundg (A - (k + 1))
                case measure => rw [HG.out]; omega
                case rel => exact ⟨k + 1, _, _, by omega, rfl, by go_num, by rw [HQ.out]; exact R.1, by rw [HQ.out]; exact R.2.1, R.2.2.1, R.2.2.2⟩
            · have e2 : ((f : Int) / 4 % 2 == 0) = false := by simp; omega
              go_upto_region 19 with fail
              clear o0 o1 f0 f1 t0 t1 t2 q0 q1 q2 bb x0 x1
              have HQ : Hid (plK js ms (k + 1) = (pk ++ [(-1, n, -1)], n + 1)) := HP.out.trans (by rw [show freB f _ = (false, true, false) by unfold freB; simp [b0, b1, b2]]; rfl)
              clear HP b0 b1 b2
              obtain ⟨⟨o0, o1, f0, f1, _⟩, ⟨t0, t1, t2, q0, q1, q2, _⟩, _, bb, _, _⟩ := id S
              obtain ⟨x0, x1, _, _, _⟩ := X0.below bb
              have hsz : w1.heap.size + 1 ≤ (V1.alloc (.cells #[.int .i64 (-1), .int .i64 (n), .int .i64 (-1)] 51)).heap.size := by have := S.bx.lt; simp; omega
              go_wp2_with (at_builtin; refine wpList_append_own _ rfl _ _ 30 rfl (w1.heap.size + 1) 51 i0 (.agg #[.int .i64 0, .int .i64 0, .int .i64 0]) 3 24 Tryz.underlying30 hi hz0 hz1 hz2 rfl (by decide) _ _ _ rfl (World.ownsRow.alloc S.own _) _ 1 1 [.int .i64 (-1), .int .i64 (n), .int .i64 (-1)] rfl rfl (World.news_of_block (cs := #[.int .i64 (-1), .int .i64 (n), .int .i64 (-1)]) (t := 51) (fr := (0, 0)) (heap_alloc_new _ _)) (by simp [Value.oneCell']) (by unfold maxLen; omega) (by omega) hsz ?_; intro v' w5 hown5 hgrow _; obtain ⟨g', cap', rfl⟩ := ownp_shape hown5; have gb := du_grown S hsz hgrow; obtain ⟨u0, u1, s0, s1, _⟩ := id gb.1)
              have R := du_round S hown5 gb
              clear S gb hown5 hgrow
              go_roundg (A - (k + 1))
              case measure => rw [HG.out]; omega
              case rel => exact ⟨k + 1, _, _, by omega, rfl, by go_num, by rw [HQ.out]; exact R.1, by rw [HQ.out]; exact R.2.1, R.2.2.1, R.2.2.2⟩
          · have e1 : ((f : Int) / 2 % 2 == 0) = false := by simp; omega
            go_upto_region 16 with fail
            clear o0 o1 f0 f1 t0 t1 t2 q0 q1 q2 bb x0 x1
            obtain ⟨⟨o0, o1, f0, f1, _⟩, ⟨t0, t1, t2, q0, q1, q2, _⟩, _, bb, _, _⟩ := id S
            obtain ⟨x0, x1, _, _, _⟩ := X0.below bb
            by_cases b2 : f / 4 % 2 = 0
            · have e2 : ((f : Int) / 4 % 2 == 0) = true := by simp; omega
              cases tq
              · go_upto_region 19 with (go_at_call 19; refine (ctk _ S.b).mono ?_; rintro e w2 ⟨rfl, b2w⟩; have S2 := S.below b2w; obtain ⟨⟨o0', o1', f0', f1', _⟩, ⟨t0', t1', t2', q0', q1', q2', _⟩, _, bb', _, _⟩ := id S2; obtain ⟨x0', x1', _, _, _⟩ := X0.below bb')
                replace S := S2
                clear o0 o1 f0 f1 t0 t1 t2 q0 q1 q2 bb x0 x1 o0' o1' f0' f1' t0' t1' t2' q0' q1' q2' bb' x0' x1' b2w S2
                have HQ : Hid (plK js ms (k + 1) = (pk ++ [(-1, -1, -1)], n)) := HP.out.trans (by rw [show freB f _ = (false, false, false) by unfold freB; simp [b0, b1, b2]]; rfl)
                clear HP b0 b1 b2
                obtain ⟨⟨o0, o1, f0, f1, _⟩, ⟨t0, t1, t2, q0, q1, q2, _⟩, _, bb, _, _⟩ := id S
                obtain ⟨x0, x1, _, _, _⟩ := X0.below bb
                have hsz : w1.heap.size + 1 ≤ (w2.alloc (.cells #[.int .i64 (-1), .int .i64 (-1), .int .i64 (-1)] 51)).heap.size := by have := S.bx.lt; simp; omega
                go_wp2_with (at_builtin; refine wpList_append_own _ rfl _ _ 30 rfl (w1.heap.size + 1) 51 i0 (.agg #[.int .i64 0, .int .i64 0, .int .i64 0]) 3 24 Tryz.underlying30 hi hz0 hz1 hz2 rfl (by decide) _ _ _ rfl (World.ownsRow.alloc S.own _) _ 1 1 [.int .i64 (-1), .int .i64 (-1), .int .i64 (-1)] rfl rfl (World.news_of_block (cs := #[.int .i64 (-1), .int .i64 (-1), .int .i64 (-1)]) (t := 51) (fr := (0, 0)) (heap_alloc_new _ _)) (by simp [Value.oneCell']) (by unfold maxLen; omega) (by omega) hsz ?_; intro v' w5 hown5 hgrow _; obtain ⟨g', cap', rfl⟩ := ownp_shape hown5; have gb := du_grown S hsz hgrow; obtain ⟨u0, u1, s0, s1, _⟩ := id gb.1)
                have R := du_round S hown5 gb
                clear S gb hown5 hgrow
                go_roundg (A - (k + 1))
                case measure => rw [HG.out]; omega
                case rel => exact ⟨k + 1, _, _, by omega, rfl, by go_num, by rw [HQ.out]; exact R.1, by rw [HQ.out]; exact R.2.1, R.2.2.1, R.2.2.2⟩
              · go_upto_region 19 with (go_at_call 19; refine (ctk _ S.b).mono ?_; rintro e w2 ⟨rfl, b2w⟩; have S2 := S.below b2w; obtain ⟨⟨o0', o1', f0', f1', _⟩, ⟨t0', t1', t2', q0', q1', q2', _⟩, _, bb', _, _⟩ := id S2; obtain ⟨x0', x1', _, _, _⟩ := X0.below bb')
                replace S := S2.put2 (n + 1)
                clear o0 o1 f0 f1 t0 t1 t2 q0 q1 q2 bb x0 x1 o0' o1' f0' f1' t0' t1' t2' q0' q1' q2' bb' x0' x1'
                generalize (w2.setCell ⟨t, 2, none⟩ (.int .i64 (n))).setCell ⟨w1.heap.size, 1, none⟩ (.int .i64 (n + 1)) = V1 at *
                have HQ : Hid (plK js ms (k + 1) = (pk ++ [(-1, -1, n)], n + 1)) := HP.out.trans (by rw [show freB f _ = (false, false, true) by unfold freB; simp [b0, b1, b2]]; rfl)
                clear HP b0 b1 b2
                obtain ⟨⟨o0, o1, f0, f1, _⟩, ⟨t0, t1, t2, q0, q1, q2, _⟩, _, bb, _, _⟩ := id S
                obtain ⟨x0, x1, _, _, _⟩ := X0.below bb
                have hsz : w1.heap.size + 1 ≤ (V1.alloc (.cells #[.int .i64 (-1), .int .i64 (-1), .int .i64 (n)] 51)).heap.size := by have := S.bx.lt; simp; omega
                go_wp2_with (at_builtin; refine wpList_append_own _ rfl _ _ 30 rfl (w1.heap.size + 1) 51 i0 (.agg #[.int .i64 0, .int .i64 0, .int .i64 0]) 3 24 Tryz.underlying30 hi hz0 hz1 hz2 rfl (by decide) _ _ _ rfl (World.ownsRow.alloc S.own _) _ 1 1 [.int .i64 (-1), .int .i64 (-1), .int .i64 (n)] rfl rfl (World.news_of_block (cs := #[.int .i64 (-1), .int .i64 (-1), .int .i64 (n)]) (t := 51) (fr := (0, 0)) (heap_alloc_new _ _)) (by simp [Value.oneCell']) (by unfold maxLen; omega) (by omega) hsz ?_; intro v' w5 hown5 hgrow _; obtain ⟨g', cap', rfl⟩ := ownp_shape hown5; have gb := du_grown S hsz hgrow; obtain ⟨u0, u1, s0, s1, _⟩ := id gb.1)
                have R := du_round S hown5 gb
                clear S gb hown5 hgrow
                go_roundg (A - (k + 1))
                case measure => rw [HG.out]; omega
                case rel => exact ⟨k + 1, _, _, by omega, rfl, by go_num, by rw [HQ.out]; exact R.1, by rw [HQ.out]; exact R.2.1, R.2.2.1, R.2.2.2⟩
            · have e2 : ((f : Int) / 4 % 2 == 0) = false := by simp; omega
              go_upto_region 19 with fail
              clear o0 o1 f0 f1 t0 t1 t2 q0 q1 q2 bb x0 x1
              have HQ : Hid (plK js ms (k + 1) = (pk ++ [(-1, -1, -1)], n)) := HP.out.trans (by rw [show freB f _ = (false, false, false) by unfold freB; simp [b0, b1, b2]]; rfl)
              clear HP b0 b1 b2
              obtain ⟨⟨o0, o1, f0, f1, _⟩, ⟨t0, t1, t2, q0, q1, q2, _⟩, _, bb, _, _⟩ := id S
              obtain ⟨x0, x1, _, _, _⟩ := X0.below bb
              have hsz : w1.heap.size + 1 ≤ (V1.alloc (.cells #[.int .i64 (-1), .int .i64 (-1), .int .i64 (-1)] 51)).heap.size := by have := S.bx.lt; simp; omega
              go_wp2_with (at_builtin; refine wpList_append_own _ rfl _ _ 30 rfl (w1.heap.size + 1) 51 i0 (.agg #[.int .i64 0, .int .i64 0, .int .i64 0]) 3 24 Tryz.underlying30 hi hz0 hz1 hz2 rfl (by decide) _ _ _ rfl (World.ownsRow.alloc S.own _) _ 1 1 [.int .i64 (-1), .int .i64 (-1), .int .i64 (-1)] rfl rfl (World.news_of_block (cs := #[.int .i64 (-1), .int .i64 (-1), .int .i64 (-1)]) (t := 51) (fr := (0, 0)) (heap_alloc_new _ _)) (by simp [Value.oneCell']) (by unfold maxLen; omega) (by omega) hsz ?_; intro v' w5 hown5 hgrow _; obtain ⟨g', cap', rfl⟩ := ownp_shape hown5; have gb := du_grown S hsz hgrow; obtain ⟨u0, u1, s0, s1, _⟩ := id gb.1)
              have R := du_round S hown5 gb
              clear S gb hown5 hgrow
              go_roundg (A - (k + 1))
              case measure => rw [HG.out]; omega
              case rel => exact ⟨k + 1, _, _, by omega, rfl, by go_num, by rw [HQ.out]; exact R.1, by rw [HQ.out]; exact R.2.1, R.2.2.1, R.2.2.2⟩
    · have e : k = A := by omega
      subst e
      have i1 : ¬ (k : Int) < (k : Int) := by omega
      obtain ⟨y0, y1, q0, q1, _⟩ := X1.below hbr
      clear HG hjr hz
      have HL : Hid ((plK js ms k).1.length = k) := plK_len js ms k
      generalize plK js ms k = pk at *
      go_wp2
      refine bodyPost_ret (v := .tuple #[.agg #[.slice lo k lc, .int .i64 pk.2], .int .i64 0]) (by simp [results, Tryz.results8, go_sem, y0, y1]) rfl ?_
      rw [HC2.out]
      refine ⟨lo, lc, by rw [HL.out], ?_, (hbx.setCell (p := ⟨w.heap.size + 1, 0, none⟩) (by simp) _).setCell (p := ⟨w.heap.size + 1, 1, none⟩) (by simp) _⟩
      have hne2 : ∀ a, lo = some a → a.block ≠ w.heap.size + 1 := fun a e => by
        have q := (ownp_block hO a e).1
        have q' := X1.lt
        omega
      exact p3_own (ownp_far (ownp_far hO hne2 _) hne2 _) HL.out
end Go.Proofs.YtomohmjjaijlbaaGreatDoor
