/- That the fixed answers of 'awake' (layer 6) are so. -/
import Derived.Test.YtmbcmhncicbbjaaGreatDoorU2
import Derived.Deep.RegionHeld3
import Derived.Deep.DeepCutAuto
import Derived.Test.YtmbcmhncicbbjaaGreatDoorU6
import Derived.Test.YtmbcmhncicbbjaaGreatDoorU3
namespace Go.Proofs.YtmbcmhncicbbjaaGreatDoor
open Go.RowKit

end Go.Proofs.YtmbcmhncicbbjaaGreatDoor

namespace Go.Proofs.YtmbcmhncicbbjaaGreatDoor
open Go.RowKit

theorem kept_one (q : Option Nat × Option Nat) (x : Nat) : (keptS q x).1 = opO .add q.1 (toO x) := rfl
theorem kept_ge {q : Option Nat × Option Nat} {x : Nat} (h : geO q.1 (toO x) = true) : (keptS q x).2 = opO .add q.2 (opO .add (opO .sub q.1 (opO .add q.1 (toO x))) (toO x)) := by
  show (if geO q.1 (toO x) then _ else _) = _
  rw [if_pos h]
theorem kept_lt {q : Option Nat × Option Nat} {x : Nat} (h : geO q.1 (toO x) = false) : (keptS q x).2 = opO .add q.2 (opO .add (opO .sub (toO x) (opO .add q.1 (toO x))) q.1) := by
  show (if geO q.1 (toO x) then _ else _) = _
  rw [if_neg (by rw [h]; decide)]
end Go.Proofs.YtmbcmhncicbbjaaGreatDoor

namespace Go.Proofs.YtmbcmhncicbbjaaGreatDoor
open Go.RowKit

end Go.Proofs.YtmbcmhncicbbjaaGreatDoor

namespace Go.Proofs.YtmbcmhncicbbjaaGreatDoor
open Go.RowKit

theorem GRow.take {w : World} {ao : Option Addr} {xs : List Nat} (h : GRow w ao xs) (n : Nat) : GRow w ao (xs.take n) := by
  rcases h with h | ⟨b, off, rfl, hc⟩
  · left
    rw [List.length_take]; omega
  · right
    refine ⟨b, off, rfl, fun j hj => ?_⟩
    rw [List.length_take] at hj
    rw [hc j (by omega)]
    have e : (xs.take n).getD j 0 = xs.getD j 0 := by
      simp [List.getD, show j < n by omega]
    rw [e]
theorem GRow.drop {w : World} {b off : Nat} {xs : List Nat} (hc : ∀ j, j < xs.length → w.cell? ⟨b, off + j, none⟩ = some (.float .f64 (xs.getD j 0))) (k : Nat) : GRow w (some ⟨b, off + k, none⟩) (xs.drop k) := by
  right
  refine ⟨b, off + k, rfl, fun j hj => ?_⟩
  rw [List.length_drop] at hj
  have e : (xs.drop k).getD j 0 = xs.getD (k + j) 0 := by
    simp [List.getD, List.getElem?_drop]
  rw [e, ← hc (k + j) (by omega), Nat.add_assoc]
theorem FW.take {xs : List Nat} (h : FW xs) (n : Nat) : FW (xs.take n) := fun x hx => h x (List.mem_of_mem_take hx)
theorem FW.drop {xs : List Nat} (h : FW xs) (n : Nat) : FW (xs.drop n) := fun x hx => h x (List.mem_of_mem_drop hx)
end Go.Proofs.YtmbcmhncicbbjaaGreatDoor

namespace Go.Proofs.YtmbcmhncicbbjaaGreatDoor
open Go.RowKit

set_option maxHeartbeats 1000000 in
theorem allfin_any (xs : List Nat) (ao : Option Addr) (cap : Nat) (w : World) (hr : GRow w ao xs) (hF : FW xs) (hn : xs.length ≤ 1125899906842624) :
    Calls Tryz.prog 78 #[.slice ao xs.length cap] w fun e w' => e = .returned (.bool (xs.all finB)) ∧ w' = w := by
  go_enter Tryz.func78, Tryz.ntmps78
  go_wp2
  go_loopg [3, 6] xs.length (fun g _ i wr => ∃ k : Nat, k ≤ xs.length ∧ g = xs.length - k ∧ i = .int .i64 k ∧ Hid (∀ j, j < k → finB (xs.getD j 0) = true) ∧ wr = w)
  case atStart => exact ⟨0, Nat.zero_le _, rfl, rfl, fun j h => by omega, rfl⟩
  case round =>
    obtain ⟨k, hk, hg, rfl, hz, rfl⟩ := hrel
    have HG : Hid (gk = xs.length - k) := hg
    clear hg
    by_cases hlt : k < xs.length
    · rcases hr with h | ⟨b, off, rfl, hc⟩
      · omega
      · have g1 := hc k hlt
        have hx := hF.at hlt
        obtain ⟨x, ex⟩ : ∃ x, xs.getD k 0 = x := ⟨_, rfl⟩
        rw [ex] at g1 hx
        have hf := fin_le x
        have i1 : (k : Int) < (xs.length : Int) := by omega
        cases fx : finB x <;> rw [fx] at hf
        · have HE : Hid (xs.all finB = false) := (show xs.all finB = false by
            rw [List.all_eq_false]
            refine ⟨x, ?_, by rw [fx]; decide⟩
            rw [← ex, getD_at hlt]
            exact List.getElem_mem hlt)
          clear hc ex hz
          go_wp2_with (go_at_call 47; refine (abs_any x hx _).mono ?_; rintro e w' ⟨rfl, rfl⟩)
          go_ret
          exact ⟨by rw [HE.out]; rfl, rfl⟩
        · have HZ : Hid (∀ j, j < k + 1 → finB (xs.getD j 0) = true) := fun j h => by
            by_cases e : j = k
            · rw [e, ex]; exact fx
            · exact hz.out j (by omega)
          clear hc ex hz
          go_wp2_with (go_at_call 47; refine (abs_any x hx _).mono ?_; rintro e w' ⟨rfl, rfl⟩)
          go_roundg (xs.length - (k + 1))
          case measure => rw [HG.out]; omega
          case rel => exact ⟨k + 1, by omega, rfl, by go_num, HZ, rfl⟩
    · have HE : Hid (xs.all finB = true) := (show xs.all finB = true by
        rw [List.all_eq_true]
        intro x hx
        obtain ⟨j, hj, e⟩ := List.mem_iff_getElem.1 hx
        have := hz.out j (by omega)
        rw [getD_at hj, e] at this
        exact this)
      have i1 : ¬ (k : Int) < (xs.length : Int) := by omega
      clear hz
      go_wp2
      go_ret
      exact ⟨by rw [HE.out]; rfl, rfl⟩
theorem few_len (xs : List Nat) : (xs.take 4096).length = if 4096 < xs.length then 4096 else xs.length := by rw [List.length_take]; split <;> omega
/-- What a literal list's cells are. -/
theorem three_row (w : World) (x y z : Nat) (t : TypeId) : GRow (w.alloc (.cells #[.float .f64 x, .float .f64 y, .float .f64 z] t)) (some ⟨w.heap.size, 0, none⟩) [x, y, z] := by
  right
  refine ⟨w.heap.size, 0, rfl, fun j hj => ?_⟩
  have h3 : j < 3 := by simpa using hj
  rcases (show j = 0 ∨ j = 1 ∨ j = 2 by omega) with rfl | rfl | rfl <;> simp [go_sem]
end Go.Proofs.YtmbcmhncicbbjaaGreatDoor

namespace Go.Proofs.YtmbcmhncicbbjaaGreatDoor
open Go.RowKit

theorem two_row (w : World) (x y : Nat) (t : TypeId) : GRow (w.alloc (.cells #[.float .f64 x, .float .f64 y] t)) (some ⟨w.heap.size, 0, none⟩) [x, y] := by
  right
  refine ⟨w.heap.size, 0, rfl, fun j hj => ?_⟩
  have h2 : j < 2 := by simpa using hj
  rcases (show j = 0 ∨ j = 1 by omega) with rfl | rfl <;> simp [go_sem]
def nearS (k : Nat) : Nat := if k = 0 then 0 else if k = 1 then 4607182418800017408 else if k = 2 then 4611686018427387904 else 4613937818241073152
theorem naive_three : naiveO [4607182418800017408, 4607182418800017408, 13830554455654793216] = some 4607182418800017408 := by kernel_rfl
end Go.Proofs.YtmbcmhncicbbjaaGreatDoor

namespace Go.Proofs.YtmbcmhncicbbjaaGreatDoor
open Go.RowKit

theorem sbox {w w1 : World} {x0 x1 x2 : Value} {s : TypeId} (hb : Below (w.alloc (.cells #[x0, x1, x2] s)).heap.size (w.alloc (.cells #[x0, x1, x2] s)) w1) :
    (w1.cell? ⟨w.heap.size, 0, none⟩ = some x0 ∧ w1.cell? ⟨w.heap.size, 1, none⟩ = some x1 ∧ w1.cell? ⟨w.heap.size, 2, none⟩ = some x2) ∧
    (w1.frozen? ⟨w.heap.size, 0, none⟩ = false ∧ w1.frozen? ⟨w.heap.size, 1, none⟩ = false ∧ w1.frozen? ⟨w.heap.size, 2, none⟩ = false) ∧ Below w.heap.size w w1 := by
  have h := fun (o : Nat) => hb.cell (p := ⟨w.heap.size, o, none⟩) (by simp)
  have g := fun (o : Nat) => hb.frozen (p := ⟨w.heap.size, o, none⟩) (by simp)
  refine ⟨⟨?_, ?_, ?_⟩, ⟨?_, ?_, ?_⟩, ((Below.refl _ _).alloc (Nat.le_refl _) _).trans (hb.mono (by go_simp))⟩
  · rw [h]; simp [go_sem]
  · rw [h]; simp [go_sem]
  · rw [h]; simp [go_sem]
  · rw [g]; simp [go_sem]
  · rw [g]; simp [go_sem]
  · rw [g]; simp [go_sem]
set_option maxHeartbeats 1000000 in
theorem sexact_any (x : Nat) (D : Dy) (hx : x < 18446744073709551616) (eD : ofD x = (D, 0)) (w : World) (hT : TabW w) :
    Calls Tryz.prog 82 #[.float .f64 x] w (GaveD w D) := by
  have ox := fun w h => Of_any x hx w h
  rw [eD] at ox
  clear eD
  go_enter Tryz.func82, Tryz.ntmps82
  go_upto_region 2 with (go_at_call 119; refine (ox _ (tabW_alloc hT _)).mono ?_; rintro e w1 ⟨ax, cx, rfl, r1, f1, b1⟩)
  have B6 := b1.alloc b1.size (.cells #[.bool D.neg, .slice ax D.mag.length cx, .int .i64 D.exp] 99)
  obtain ⟨⟨c0, c1, c2⟩, ⟨g0, g1, g2⟩, B7⟩ := sbox B6
  have E6 := Hd.new (cap := cx) r1
  have e0 := E6.c0
  have e1 := E6.c1
  have e2 := E6.c2
  have hfr : Frs (w.heap.size + 1) ax := f1.mono (by simp)
  go_wp2
  exact bodyPost_ret (v := .agg #[.bool D.neg, .slice ax D.mag.length cx, .int .i64 D.exp]) (by simp [results, Tryz.results82, go_sem, c0, c1, c2]) rfl ⟨ax, cx, rfl, (((E6.row).box hfr (by omega) _ _).box hfr (by omega) _ _).box hfr (by omega) _ _, hfr.mono (by omega), ((B7.setCell (Nat.le_refl _) _).setCell (Nat.le_refl _) _).setCell (Nat.le_refl _) _⟩
end Go.Proofs.YtmbcmhncicbbjaaGreatDoor

namespace Go.Proofs.YtmbcmhncicbbjaaGreatDoor
open Go.RowKit

theorem ldrew {w w1 : World} (h : Below w.drew.heap.size w.drew w1) : Below w.heap.size w w1 := ⟨h.os, h.tape, h.output, h.size, h.block⟩
/-- A box of three cells that may be written. -/
def Fz (w : World) (p : Nat) : Prop := w.frozen? ⟨p, 0, none⟩ = false ∧ w.frozen? ⟨p, 1, none⟩ = false ∧ w.frozen? ⟨p, 2, none⟩ = false
theorem Fz.below {w w1 : World} {p : Nat} (h : Fz w p) (hp : p < w.heap.size) (hb : Below w.heap.size w w1) : Fz w1 p := by
  obtain ⟨_, hf⟩ := oldc hb
  exact ⟨(hf _ _ hp).trans h.1, (hf _ _ hp).trans h.2.1, (hf _ _ hp).trans h.2.2⟩
theorem put3 {w : World} {p B : Nat} {a : Option Addr} {c : Nat} {D E : Dy} {ao : Option Addr} {cap : Nat} (h : Hd w p D ao cap) (hz : Fz w p) (hr : LRow w a E.mag) (hf : Frs B a) (hp : p < B) :
    Hd (((w.setCell ⟨p, 0, none⟩ (.bool E.neg)).setCell ⟨p, 1, none⟩ (.slice a E.mag.length c)).setCell ⟨p, 2, none⟩ (.int .i64 E.exp)) p E a c ∧ Fz (((w.setCell ⟨p, 0, none⟩ (.bool E.neg)).setCell ⟨p, 1, none⟩ (.slice a E.mag.length c)).setCell ⟨p, 2, none⟩ (.int .i64 E.exp)) p := by
  have s0 : (w.setCell ⟨p, 0, none⟩ (.bool E.neg)).cell? ⟨p, 0, none⟩ = some (.bool E.neg) := World.cell?_setCell_same w _ _ h.c0
  have s1 : (w.setCell ⟨p, 0, none⟩ (.bool E.neg)).cell? ⟨p, 1, none⟩ = some (.slice ao D.mag.length cap) := (World.cell?_setCell_other w _ _ _ (by simp)).trans h.c1
  have s2 : (w.setCell ⟨p, 0, none⟩ (.bool E.neg)).cell? ⟨p, 2, none⟩ = some (.int .i64 D.exp) := (World.cell?_setCell_other w _ _ _ (by simp)).trans h.c2
  have t0 := (World.cell?_setCell_other _ ⟨p, 1, none⟩ ⟨p, 0, none⟩ (.slice a E.mag.length c) (by simp)).trans s0
  have t1 := World.cell?_setCell_same _ _ (.slice a E.mag.length c) s1
  have t2 := (World.cell?_setCell_other _ ⟨p, 1, none⟩ ⟨p, 2, none⟩ (.slice a E.mag.length c) (by simp)).trans s2
  refine ⟨⟨(World.cell?_setCell_other _ _ _ _ (by simp)).trans t0, (World.cell?_setCell_other _ _ _ _ (by simp)).trans t1, World.cell?_setCell_same _ _ _ t2, ((hr.box hf hp _ _).box hf hp _ _).box hf hp _ _⟩, ?_⟩
  obtain ⟨f0, f1, f2⟩ := hz
  refine ⟨?_, ?_, ?_⟩ <;> simp [go_sem, f0, f1, f2]
end Go.Proofs.YtmbcmhncicbbjaaGreatDoor

namespace Go.Proofs.YtmbcmhncicbbjaaGreatDoor
open Go.RowKit

def lA : List Nat := [4607182418800017408, 4877398396442247168, 14100770433297022976]
def lD (k : Nat) : Dy := if k = 0 then ⟨false, [1], 0⟩ else if k = 1 then ⟨false, [1], 60⟩ else ⟨true, [1], 60⟩
def lT (k : Nat) : Dy := if k = 0 then dy0 else if k = 1 then ⟨false, [1], 0⟩ else if k = 2 then ⟨false, [1152921504606846977], 0⟩ else ⟨false, [1], 0⟩
/-- A sum in units of the lesser power. -/
theorem addD_low {a b : Dy} (ha : rightB a = true) (hb : rightB b = true) (p q : Nat) (e : Int) (he : -65536 ≤ e) (hp : a.exp = e + p) (hq : b.exp = e + q) : addD a b = nrm (sv a * 2 ^ p + sv b * 2 ^ q) e := by
  unfold addD
  rw [ha, hb]
  simp only [Bool.and_self, if_true]
  have := nrm_shift (sv a * 2 ^ p + sv b * 2 ^ q) e (e + 65536).toNat
  rw [show e - (((e + 65536).toNat : Nat) : Int) = -65536 by omega] at this
  rw [← this]
  unfold qd
  rw [hp, hq, show (e + (p : Int) + 65536).toNat = p + (e + 65536).toNat by omega, show (e + (q : Int) + 65536).toNat = q + (e + 65536).toNat by omega, pow_add_int, pow_add_int, Int.add_mul, Int.mul_assoc, Int.mul_assoc]
theorem lA_a1 : addD dy0 ⟨false, [1], 0⟩ = (⟨false, [1], 0⟩, 0) := by
  rw [addD_low (a := dy0) (by kernel_rfl) (by kernel_rfl) 0 0 0 (by omega) rfl rfl]
  kernel_rfl
theorem lA_a2 : addD ⟨false, [1], 0⟩ ⟨false, [1], 60⟩ = (⟨false, [1152921504606846977], 0⟩, 0) := by
  rw [addD_low (a := ⟨false, [1], 0⟩) (b := ⟨false, [1], 60⟩) (by kernel_rfl) (by kernel_rfl) 0 60 0 (by omega) rfl rfl]
  kernel_rfl
theorem lA_a3 : addD ⟨false, [1152921504606846977], 0⟩ ⟨true, [1], 60⟩ = (⟨false, [1], 0⟩, 0) := by
  rw [addD_low (a := ⟨false, [1152921504606846977], 0⟩) (b := ⟨true, [1], 60⟩) (by kernel_rfl) (by kernel_rfl) 0 60 0 (by omega) rfl rfl]
  kernel_rfl
end Go.Proofs.YtmbcmhncicbbjaaGreatDoor

namespace Go.Proofs.YtmbcmhncicbbjaaGreatDoor
open Go.RowKit

theorem lA_of : ofD 4607182418800017408 = (⟨false, [1], 0⟩, 0) ∧ ofD 4877398396442247168 = (⟨false, [1], 60⟩, 0) ∧ ofD 14100770433297022976 = (⟨true, [1], 60⟩, 0) := ⟨by kernel_rfl, by kernel_rfl, by kernel_rfl⟩
theorem lA_add : addD dy0 ⟨false, [1], 0⟩ = (⟨false, [1], 0⟩, 0) ∧ addD ⟨false, [1], 0⟩ ⟨false, [1], 60⟩ = (⟨false, [1152921504606846977], 0⟩, 0) ∧ addD ⟨false, [1152921504606846977], 0⟩ ⟨true, [1], 60⟩ = (⟨false, [1], 0⟩, 0) := ⟨lA_a1, lA_a2, lA_a3⟩
theorem lA_fw : FW lA := by intro x hx; simp [lA] at hx; omega
end Go.Proofs.YtmbcmhncicbbjaaGreatDoor

namespace Go.Proofs.YtmbcmhncicbbjaaGreatDoor
open Go.RowKit

theorem NR_is {v r : Nat} (h : NR (some v) r) : r = v := h.2
end Go.Proofs.YtmbcmhncicbbjaaGreatDoor
