/- The document's Unknowns, of any plan. -/
import Derived.Test.YtkjgilffljlanaaGreatDoorBC
import Derived.Test.YtkjgilffljlanaaGreatDoorJD
import Derived.Deep.Heap
namespace Go.Proofs.YtkjgilffljlanaaGreatDoor
open Go.RowKit
set_option maxHeartbeats 4000000 in
theorem dbcheck_any (js : List Jn) (ms : List Mb) (ao mo : Option Addr) (ac mc : Nat) (w : World) (hr : JRow w ao js) (hw : JWs js) (hn : js.length ≤ 1125899906842624) (mr : MRow w mo ms) (mw : MWs ms) (mn : ms.length ≤ 1125899906842624) :
  Calls Tryz.prog 15 #[.agg #[.slice ao js.length ac, .slice mo ms.length mc]] w fun e w' => e = .returned (.tuple #[.int .i64 (cpA js ms).1, .int .i64 ((cpA js ms).2 : Nat)]) ∧ Below w.heap.size w w' := by
 have cj := fun w' (h : JRow w' ao js) => dcheck_any js ao ac w' h hw hn
 have cm := fun k (hk : k < ms.length) w' (h : MRow w' mo ms) => dmaym_any ms js.length k ao mo ac mc w' h mw mn hk
 obtain ⟨N, hN⟩ : ∃ N, ms.length = N := ⟨_, rfl⟩
 have HN : Hid (ms.length = N) := hN
 have HC : Hid (cpA js ms = if (ckA js).1 = 0 then cmA js.length ms else ckA js) := (show _ = _ from rfl)
 obtain ⟨A, hA⟩ : ∃ A, js.length = A := ⟨_, rfl⟩
 rw [hN] at mn cm ⊢
 rw [hA] at cj hn HC cm ⊢
 generalize cpA js ms = cp at *
 obtain ⟨⟨c1, c2⟩, hc⟩ : ∃ c, ckA js = c := ⟨_, rfl⟩
 rw [hc] at cj HC
 simp only at cj HC
 have hb0 : Below w.heap.size w (w.alloc (.cells #[.slice ao A ac, .slice mo N mc] 25)) := (Below.refl _ _).alloc (Nat.le_refl _) _
 have p0 : (w.alloc (.cells #[.slice ao A ac, .slice mo N mc] 25)).cell? ⟨w.heap.size, 0, none⟩ = some (.slice ao A ac) := by simp [go_sem]
 have p1 : (w.alloc (.cells #[.slice ao A ac, .slice mo N mc] 25)).cell? ⟨w.heap.size, 1, none⟩ = some (.slice mo N mc) := by simp [go_sem]
 have pl : w.heap.size < (w.alloc (.cells #[.slice ao A ac, .slice mo N mc] 25)).heap.size := by simp
 replace hr := hr.below hb0
 replace mr := mr.below hb0
 clear hw hc hN hA mw
 go_enter Tryz.func15, Tryz.ntmps15
 go_upto_region 1 with fail
 generalize w.alloc (.cells #[.slice ao A ac, .slice mo N mc] 25) = W0 at *
 by_cases hc0 : c1 = 0
 ·subst hc0
  have HC2 : Hid (cp = cmA A ms) := HC.out.trans (by rw [if_pos rfl])
  clear HC
  go_upto_region 2 with (go_at_call 37; refine (cj _ hr).mono ?_; rintro e w1 ⟨rfl, b1⟩)
  replace mr := mr.below b1
  have q0 : w1.cell? ⟨w.heap.size, 0, none⟩ = some (.slice ao A ac) := (b1.cell (p := ⟨w.heap.size, 0, none⟩) pl).trans p0
  have q1 : w1.cell? ⟨w.heap.size, 1, none⟩ = some (.slice mo N mc) := (b1.cell (p := ⟨w.heap.size, 1, none⟩) pl).trans p1
  replace pl : w.heap.size < w1.heap.size := Nat.lt_of_lt_of_le pl b1.size
  have hb1 := hb0.trans (b1.mono hb0.size)
  clear p0 p1 hb0 b1 cj hr
  by_cases h1 : 48 < N
  ·have i1 : (48 : Int) < (N : Int) := by omega
   have Hc : Hid (cp = (3, 0)) := HC2.out.trans (cm_long (by rw [HN.out]; exact h1))
   go_wp2
   go_ret2
   exact ⟨by rw [Hc.out]; rfl, hb1⟩
  have i1 : ¬ (48 : Int) < (N : Int) := by omega
  have HL : Hid (¬ 48 < ms.length) := (by rw [HN.out]; exact h1 : ¬ 48 < ms.length)
  go_upto_region 7 with fail
  clear h1 i1
  go_loopg [6] N (fun g v wr => ∃ k : Nat, k ≤ N ∧ g = N - k ∧ v = .int .i64 k ∧ Hid (∀ i, i < k → fM A ms i = false) ∧ Below w1.heap.size w1 wr)
  case atStart => exact ⟨0, by omega, rfl, rfl, (fun i hi => absurd hi (by omega)), Below.refl _ _⟩
  case round =>
   obtain ⟨k, hk, hg, rfl, hq, hbr⟩ := hrel
   have HG : Hid (gk = N - k) := hg
   clear hg
   have r0 := (hbr.cell (p := ⟨w.heap.size, 0, none⟩) pl).trans q0
   have r1 := (hbr.cell (p := ⟨w.heap.size, 1, none⟩) pl).trans q1
   have hbx := hb1.trans (hbr.mono hb1.size)
   by_cases hlt : k < N
   ·have i2 : (k : Int) < (N : Int) := by omega
    have cmk := fun w' (h : MRow w' mo ms) => cm k hlt w' h
    have mrk := mr.below hbr
    have HB : Hid (fM A ms k = true → cp = (290, k)) := fun q => HC2.out.trans (cm_bad HL.out (by rw [HN.out]; exact hlt) hq.out q)
    have HS : Hid (fM A ms k = false → ∀ i, i < k + 1 → fM A ms i = false) := fun h i hi => by
     rcases (show i < k ∨ i = k by omega) with h' | rfl
     ·exact hq.out i h'
     ·exact h
    clear cm
    generalize fM A ms k = f at *
    cases f
    ·have HQ : Hid (∀ i, i < k + 1 → fM A ms i = false) := HS.out rfl
     clear HS HB
     go_wp2_with (go_at_call 38; refine (cmk _ mrk).mono ?_; rintro e w2 ⟨rfl, b2⟩)
     go_roundg (N - (k + 1))
     case measure => rw [HG.out]; omega
     case rel => exact ⟨k + 1, by omega, rfl, by go_num, HQ, hbr.trans (b2.mono hbr.size)⟩
    ·have Hc : Hid (cp = (290, k)) := HB.out rfl
     clear HS HB
     go_wp2_with (go_at_call 38; refine (cmk _ mrk).mono ?_; rintro e w2 ⟨rfl, b2⟩)
     go_ret2
     exact ⟨by rw [Hc.out]; rfl, hbx.trans (b2.mono hbx.size)⟩
   ·have e : k = ms.length := by have := HN.out; omega
    have Hc : Hid (cp = (0, 0)) := HC2.out.trans (cm_ok HL.out (by rw [← e]; exact hq.out))
    have i2 : ¬ (k : Int) < (N : Int) := by omega
    clear e
    go_wp2
    go_ret2
    exact ⟨by rw [Hc.out]; rfl, hbx⟩
 ·have hne : (c1 != 0) = true := by simpa using hc0
  have HC2 : Hid (cp = (c1, c2)) := HC.out.trans (by rw [if_neg hc0])
  clear HC hc0
  go_wp2_with (go_at_call 37; refine (cj _ hr).mono ?_; rintro e w1 ⟨rfl, b1⟩)
  go_ret2
  exact ⟨by rw [HC2.out]; rfl, hb0.trans (b1.mono hb0.size)⟩
theorem Tryz.info3 : (Tryz.prog.info? 69).map (fun i => (i.zero, i.size, i.bytes)) = some (some (.agg #[.int .i64 0, .int .i64 0, .int .i64 0]), 3, 24) := by kernel_rfl
def unkA (js : List Jn) (ms : List Mb) : (List (Int × Int × Int) × Int) × Int := if (cpA js ms).1 = 0 then (plK js ms js.length, 0) else (([], 0), (cpA js ms).1)
def GavePl (w : World) (x : (List (Int × Int × Int) × Int) × Int) (e : Ending) (w' : World) : Prop :=
 ∃ ao ac, e = .returned (.tuple #[.agg #[.slice ao x.1.1.length ac, .int .i64 x.1.2], .int .i64 x.2]) ∧ P3Row w' ao x.1.1 ∧ Below w.heap.size w w'
structure T3 (w : World) (b : Nat) (x y z : Value) : Prop where
 c0 : w.cell? ⟨b, 0, none⟩ = some x
 c1 : w.cell? ⟨b, 1, none⟩ = some y
 c2 : w.cell? ⟨b, 2, none⟩ = some z
 f0 : w.frozen? ⟨b, 0, none⟩ = false
 f1 : w.frozen? ⟨b, 1, none⟩ = false
 f2 : w.frozen? ⟨b, 2, none⟩ = false
 lt : b < w.heap.size
theorem T3.new (w : World) (x y z : Value) (t : TypeId) : T3 (w.alloc (.cells #[x, y, z] t)) w.heap.size x y z :=
 ⟨by go_simp, by go_simp, by go_simp, by go_simp, by go_simp, by go_simp, by simp⟩
theorem T3.below {w w' : World} {b : Nat} {x y z : Value} (h : T3 w b x y z) (hb : Below w.heap.size w w') : T3 w' b x y z :=
 ⟨(hb.cell (p := ⟨b, 0, none⟩) h.lt).trans h.c0, (hb.cell (p := ⟨b, 1, none⟩) h.lt).trans h.c1, (hb.cell (p := ⟨b, 2, none⟩) h.lt).trans h.c2, (hb.frozen (p := ⟨b, 0, none⟩) h.lt).trans h.f0, (hb.frozen (p := ⟨b, 1, none⟩) h.lt).trans h.f1, (hb.frozen (p := ⟨b, 2, none⟩) h.lt).trans h.f2, Nat.lt_of_lt_of_le h.lt hb.size⟩
theorem T3.set0 {w : World} {b : Nat} {x y z : Value} (h : T3 w b x y z) (p : Value) : T3 (w.setCell ⟨b, 0, none⟩ p) b p y z := by
 obtain ⟨c0, c1, c2, f0, f1, f2, lt⟩ := h
 exact ⟨by go_simp, by go_simp, by go_simp, by go_simp, by go_simp, by go_simp, by simpa [World.setCell] using lt⟩
theorem T3.set1 {w : World} {b : Nat} {x y z : Value} (h : T3 w b x y z) (p : Value) : T3 (w.setCell ⟨b, 1, none⟩ p) b x p z := by
 obtain ⟨c0, c1, c2, f0, f1, f2, lt⟩ := h
 exact ⟨by go_simp, by go_simp, by go_simp, by go_simp, by go_simp, by go_simp, by simpa [World.setCell] using lt⟩
theorem T3.set2 {w : World} {b : Nat} {x y z : Value} (h : T3 w b x y z) (p : Value) : T3 (w.setCell ⟨b, 2, none⟩ p) b x y p := by
 obtain ⟨c0, c1, c2, f0, f1, f2, lt⟩ := h
 exact ⟨by go_simp, by go_simp, by go_simp, by go_simp, by go_simp, by go_simp, by simpa [World.setCell] using lt⟩
theorem T3.far {w : World} {b g : Nat} {x y z : Value} (h : T3 w b x y z) (hn : b ≠ g) {i : Nat} (a : Value) : T3 (w.setCell ⟨g, i, none⟩ a) b x y z := by
 obtain ⟨c0, c1, c2, f0, f1, f2, lt⟩ := h
 exact ⟨by simp [go_sem, c0], by simp [go_sem, c1], by simp [go_sem, c2], by simp [go_sem, f0], by simp [go_sem, f1], by simp [go_sem, f2], by simpa [World.setCell] using lt⟩
theorem ownp_block {w : World} {B n s k lc : Nat} {e : TypeId} {lo : Option Addr} {xs : List Value} (h : w.ownsRow B e s (.slice lo k lc) n xs) (a : Addr) (ha : lo = some a) : B ≤ a.block ∧ a.block < w.heap.size := by
 rcases h.2 with hn | ⟨g', cap, cur, h1, h2, h3, h4⟩
 ·obtain ⟨e1, _⟩ := hn
  cases e1
  cases ha
 ·cases h1
  cases ha
  refine ⟨h2, ?_⟩
  rcases Nat.lt_or_ge g' w.heap.size with q | q
  ·exact q
  ·rw [Array.getElem?_eq_none q] at h3
   cases h3
theorem PBox.belowB {w w' : World} {b B : Nat} {x y : Value} (h : PBox w b x y) (hl : b < B) (hb : Below B w w') : PBox w' b x y :=
 ⟨(hb.cell (p := ⟨b, 0, none⟩) hl).trans h.c0, (hb.cell (p := ⟨b, 1, none⟩) hl).trans h.c1, (hb.frozen (p := ⟨b, 0, none⟩) hl).trans h.f0, (hb.frozen (p := ⟨b, 1, none⟩) hl).trans h.f1, Nat.lt_of_lt_of_le h.lt hb.size⟩
theorem ownp_shape {w : World} {B k s : Nat} {e : TypeId} {v : Value} {xs : List Value} (h : w.ownsRow B e s v (k + 1) xs) : ∃ g c, v = .slice (some ⟨g, 0, none⟩) (k + 1) c := by
 rcases h.2 with hn | ⟨g', cap, cur, h1, h2, h3, h4⟩
 ·exact absurd hn.2 (by omega)
 ·exact ⟨g', cap, h1⟩
end Go.Proofs.YtkjgilffljlanaaGreatDoor
