/- What awake of layer 9 answers. -/
import Derived.Test.YtmffalpckdkabaaDoorAb
import Derived.Test.YtmffalpckdkabaaDoorSh
import Derived.Deep.QuietTactic
import Derived.BigQuiet
import Derived.Test.YtmffalpckdkabaaDoorZl
import Derived.Laws.OwnMore
import Derived.Deep.AppendLies
import Derived.Deep.RegionLaw
namespace Go.Proofs.YtmffalpckdkabaaDoor
open Go.RowKit

/-- A sum upwards, of any two floats. -/
def adU (a b : Nat) : Option Nat := if finB a && finB b then some (addV a b 2) else floatBits .add .f64 a b
theorem vnan_fin {s : Nat} (h : nanB s = true) : finB s = false := by
  unfold nanB at h; unfold finB
  simp only [decide_eq_true_eq] at h
  simp; omega
theorem adU_nan {a b : Nat} (ha : a < 18446744073709551616) (hb : b < 18446744073709551616) (h : nanB a = true ∨ nanB b = true) : adU a b = none := by
  unfold adU
  have hf : (finB a && finB b) = false := by
    rcases h with h | h
    · rw [vnan_fin h, Bool.false_and]
    · rw [vnan_fin h, Bool.and_false]
  rw [hf]
  exact op_nan (op := .add) (Or.inl rfl) ha hb h
theorem padd_up (a b : Nat) (ha : a < 18446744073709551616) (hb : b < 18446744073709551616) (w : World) :
    Calls Tryd.prog 21 #[.float .f64 a, .float .f64 b, .int .i8 2] w fun e w' => ∃ r, e = .returned (.float .f64 r) ∧ NR (adU a b) r ∧ Below w.heap.size w w' := by
  unfold adU
  cases h : (finB a && finB b)
  · simp only [Bool.false_eq_true, if_false]
    refine (radd_inf a b 2 ha hb (by cases fa : finB a; exact Or.inl rfl; rw [fa] at h; exact Or.inr (by simpa using h)) w).mono ?_
    rintro e w' ⟨⟨r, rfl, h1⟩, h2⟩
    exact ⟨r, rfl, h1, h2⟩
  · have fa : finB a = true := by revert h; cases finB a <;> simp
    have fb : finB b = true := by revert h; cases finB b <;> simp
    simp only [if_true]
    refine (radd_gen a b 2 ha hb fa fb w).mono ?_
    rintro e w' ⟨rfl, rfl⟩
    exact ⟨_, rfl, ⟨addV_lt 2 ha hb fa fb, rfl⟩, Below.refl _ _⟩
/-- The sizes of the first k floats summed, each sum upwards. -/
def nrO (xs : List Nat) : Nat → Option Nat
  | 0 => some 0
  | k + 1 => (nrO xs k).bind fun s => adU s (rung (xs.getD k 0))
theorem vrung64 (a : Nat) : rung a < 18446744073709551616 := by have := rung_lt a; omega
theorem nrO_step {xs : List Nat} {k s r : Nat} (h : NR (nrO xs k) s) (hr : NR (adU s (rung (xs.getD k 0))) r) : NR (nrO xs (k + 1)) r := by
  show NR ((nrO xs k).bind _) r
  cases ho : nrO xs k with
  | none =>
    rw [ho] at h
    rw [adU_nan h.1 (vrung64 _) (Or.inl h.2)] at hr
    exact hr
  | some v =>
    rw [ho] at h
    have e : s = v := h.2
    subst e
    exact hr
set_option maxHeartbeats 1000000 in
theorem vnorm_any (xs : List Nat) (ao : Option Addr) (cap : Nat) (w : World) (hr : GRow w ao xs) (hF : FW xs) (hn : xs.length ≤ 1125899906842624) :
    Calls Tryd.prog 5 #[.slice ao xs.length cap] w fun e w' => ∃ r, e = .returned (.float .f64 r) ∧ NR (nrO xs xs.length) r ∧ Below w.heap.size w w' := by
  go_enter Tryd.func5, Tryd.ntmps5
  go_wp2
  go_loopg [3, 4, 7] xs.length (fun g s _ i wr => ∃ k r : Nat, k ≤ xs.length ∧ g = xs.length - k ∧ s = .float .f64 r ∧ i = .int .i64 k ∧ Hid (NR (nrO xs k) r) ∧ Hid (Below w.heap.size w wr))
  case atStart => exact ⟨0, 0, Nat.zero_le _, rfl, rfl, rfl, ⟨by omega, rfl⟩, Below.refl _ _⟩
  case round =>
    obtain ⟨k, r, hk, hg, rfl, rfl, hN, hB⟩ := hrel
    have HG : Hid (gk = xs.length - k) := hg
    clear hg
    by_cases hlt : k < xs.length
    · rcases hr.below hB.out with h | ⟨b, off, rfl, hc⟩
      · omega
      have g1 := hc k hlt
      have hx := hF.at hlt
      have HS : Hid (∀ q, NR (adU r (rung (xs.getD k 0))) q → NR (nrO xs (k + 1)) q) := fun q h => nrO_step hN.out h
      have hst := padd_up r (rung (xs.getD k 0)) hN.out.1 (vrung64 _)
      generalize xs.getD k 0 = x at *
      have cb := abs_any x hx
      have i1 : (k : Int) < (xs.length : Int) := by omega
      clear hc
      go_wp2_with (first
        | (go_at_call 8; refine (cb _).mono ?_; rintro e w' ⟨rfl, rfl⟩)
        | (go_at_call 21; refine (hst _).mono ?_; rintro e w2 ⟨r2, rfl, h2, b2⟩))
      go_roundg (xs.length - (k + 1))
      case measure => rw [HG.out]; omega
      case rel => exact ⟨k + 1, r2, by omega, rfl, rfl, by go_num, HS.out _ h2, hB.out.trans (b2.mono hB.out.size)⟩
    · have ek : k = xs.length := by omega
      subst ek
      have i1 : ¬ (xs.length : Int) < (xs.length : Int) := by omega
      go_wp2
      go_ret
      exact ⟨_, rfl, hN.out, hB.out⟩
/-- The place of the greatest size so far, and that size. -/
def msL (xs : List Nat) : Nat → Int × Nat
  | 0 => (-1, 0)
  | k + 1 => if nanB (xs.getD k 0) = false ∧ ((msL xs k).1 < 0 ∨ (msL xs k).2 < rung (xs.getD k 0)) then ((k : Int), rung (xs.getD k 0)) else msL xs k
theorem msL_bounds (xs : List Nat) (k : Nat) : -1 ≤ (msL xs k).1 ∧ (msL xs k).1 < k ∧ (msL xs k).2 ≤ 9218868437227405312 := by
  induction k with
  | zero => exact ⟨by simp [msL], by simp [msL], by simp [msL]⟩
  | succ k ih =>
    unfold msL
    split
    · rename_i h
      refine ⟨by omega, by omega, ?_⟩
      have := h.1
      unfold nanB at this
      simpa using this
    · exact ⟨ih.1, by omega, ih.2.2⟩
theorem msL_yes {xs : List Nat} {k : Nat} (h1 : nanB (xs.getD k 0) = false) (h2 : (msL xs k).1 < 0 ∨ (msL xs k).2 < rung (xs.getD k 0)) : msL xs (k + 1) = ((k : Int), rung (xs.getD k 0)) := by
  show (if _ then _ else _) = _
  rw [if_pos ⟨h1, h2⟩]
theorem msL_no {xs : List Nat} {k : Nat} (h : nanB (xs.getD k 0) = true ∨ (0 ≤ (msL xs k).1 ∧ rung (xs.getD k 0) ≤ (msL xs k).2)) : msL xs (k + 1) = msL xs k := by
  show (if _ then _ else _) = _
  rw [if_neg]
  rintro ⟨h1, h2⟩
  rcases h with h | ⟨h3, h4⟩
  · rw [h1] at h; cases h
  · omega
theorem nan_rung (x : Nat) : nanB (rung x) = nanB x := by
  unfold nanB
  rw [rung_small (rung_lt x)]
theorem size_gt {u v : Nat} (hu : u ≤ 9218868437227405312) (hv : v ≤ 9218868437227405312) : (FloatKind.f64.format.order u v == some .gt) = decide (v < u) := by
  have nu := nan_small hu
  have nv := nan_small hv
  rw [ord_num (by omega) (by omega) nu nv, place_small (by omega), place_small (by omega)]
  rw [cmp_gt]
  by_cases h : v < u
  · rw [decide_eq_true h]; exact decide_eq_true (by omega)
  · rw [decide_eq_false h]; exact decide_eq_false (by omega)
theorem size_gt_nan {u v : Nat} (hu : u < 18446744073709551616) (hv : v < 18446744073709551616) (h : nanB u = true) : (FloatKind.f64.format.order u v == some .gt) = false := by
  rw [ord_nan hu hv (Or.inl h)]; rfl
end Go.Proofs.YtmffalpckdkabaaDoor

namespace Go.Proofs.YtmffalpckdkabaaDoor
open Go.RowKit

set_option maxHeartbeats 2000000 in
theorem vmost_any (xs : List Nat) (ao : Option Addr) (cap : Nat) (w : World) (hr : GRow w ao xs) (hF : FW xs) (hn : xs.length ≤ 1125899906842624) :
    Calls Tryd.prog 6 #[.slice ao xs.length cap] w fun e w' => e = .returned (.tuple #[.int .i64 (msL xs xs.length).1, .float .f64 (msL xs xs.length).2]) ∧ w' = w := by
  go_enter Tryd.func6, Tryd.ntmps6
  go_wp2
  go_loopg [4, 5, 6, 10] xs.length (fun g a s _ i wr => ∃ k : Nat, k ≤ xs.length ∧ g = xs.length - k ∧ a = .int .i64 (msL xs k).1 ∧ s = .float .f64 (msL xs k).2 ∧ i = .int .i64 k ∧ wr = w)
  case atStart => exact ⟨0, Nat.zero_le _, rfl, rfl, rfl, rfl, rfl⟩
  case round =>
    obtain ⟨k, hk, hg, rfl, rfl, rfl, rfl⟩ := hrel
    have HG : Hid (gk = xs.length - k) := hg
    clear hg
    by_cases hlt : k < xs.length
    · rcases hr with h | ⟨b, off, rfl, hc⟩
      · omega
      have g1 := hc k hlt
      have hx := hF.at hlt
      obtain ⟨m1, m2, m3⟩ := msL_bounds xs k
      have HY : Hid (nanB (xs.getD k 0) = false → ((msL xs k).1 < 0 ∨ (msL xs k).2 < rung (xs.getD k 0)) → msL xs (k + 1) = ((k : Int), rung (xs.getD k 0))) := msL_yes
      have HO : Hid ((nanB (xs.getD k 0) = true ∨ (0 ≤ (msL xs k).1 ∧ rung (xs.getD k 0) ≤ (msL xs k).2)) → msL xs (k + 1) = msL xs k) := msL_no
      generalize xs.getD k 0 = x at *
      obtain ⟨⟨at_, sz⟩, hq⟩ : ∃ q : Int × Nat, msL xs k = q := ⟨_, rfl⟩
      rw [hq] at m1 m2 m3 HY HO
      rw [hq]
      dsimp only at m1 m2 m3 HY HO ⊢
      have cb := abs_any x hx
      have cn := isnan_any (rung x) (vrung64 x)
      rw [nan_rung] at cn
      have i1 : (k : Int) < (xs.length : Int) := by omega
      have hrl := rung_lt x
      clear hc hq
      cases hnan : nanB x
      · have hru : rung x ≤ 9218868437227405312 := by unfold nanB at hnan; simpa using hnan
        have ho := size_gt hru m3
        rw [hnan] at cn
        by_cases hy : at_ < 0 ∨ sz < rung x
        · have HS := HY.out hnan hy
          have e1 : Hid (((k : Int)) = (msL xs (k + 1)).1) := (show _ = _ by rw [HS])
          have e2 : Hid (rung x = (msL xs (k + 1)).2) := (show _ = _ by rw [HS])
          clear HY HO HS
          by_cases hs : sz < rung x
          · rw [decide_eq_true hs] at ho
            clear hy hs
            go_wp2_with (first
              | (go_at_call 8; refine (cb _).mono ?_; rintro e w' ⟨rfl, rfl⟩)
              | (go_at_call 22; refine (cn _).mono ?_; rintro e w' ⟨rfl, rfl⟩))
            go_roundg (xs.length - (k + 1))
            case measure => rw [HG.out]; omega
            case rel => exact ⟨k + 1, by omega, rfl, by rw [← e1.out], by rw [← e2.out], by go_num, rfl⟩
          · rw [decide_eq_false hs] at ho
            have ha : at_ < 0 := by omega
            clear hy hs
            go_wp2_with (first
              | (go_at_call 8; refine (cb _).mono ?_; rintro e w' ⟨rfl, rfl⟩)
              | (go_at_call 22; refine (cn _).mono ?_; rintro e w' ⟨rfl, rfl⟩))
            go_roundg (xs.length - (k + 1))
            case measure => rw [HG.out]; omega
            case rel => exact ⟨k + 1, by omega, rfl, by rw [← e1.out], by rw [← e2.out], by go_num, rfl⟩
        · have HS := HO.out (Or.inr (by omega))
          have hs : ¬ sz < rung x := by omega
          have ha : ¬ at_ < 0 := by omega
          have e1 : Hid (at_ = (msL xs (k + 1)).1) := (show _ = _ by rw [HS])
          have e2 : Hid (sz = (msL xs (k + 1)).2) := (show _ = _ by rw [HS])
          rw [decide_eq_false hs] at ho
          clear HY HO HS hy hs
          go_wp2_with (first
            | (go_at_call 8; refine (cb _).mono ?_; rintro e w' ⟨rfl, rfl⟩)
            | (go_at_call 22; refine (cn _).mono ?_; rintro e w' ⟨rfl, rfl⟩))
          go_roundg (xs.length - (k + 1))
          case measure => rw [HG.out]; omega
          case rel => exact ⟨k + 1, by omega, rfl, by rw [← e1.out], by rw [← e2.out], by go_num, rfl⟩
      · have ho := size_gt_nan (v := sz) (vrung64 x) (by omega) (by rw [nan_rung]; exact hnan)
        rw [hnan] at cn
        have HS := HO.out (Or.inl hnan)
        have e1 : Hid (at_ = (msL xs (k + 1)).1) := (show _ = _ by rw [HS])
        have e2 : Hid (sz = (msL xs (k + 1)).2) := (show _ = _ by rw [HS])
        clear HY HO HS
        by_cases ha : at_ < 0
        all_goals
          go_wp2_with (first
            | (go_at_call 8; refine (cb _).mono ?_; rintro e w' ⟨rfl, rfl⟩)
            | (go_at_call 22; refine (cn _).mono ?_; rintro e w' ⟨rfl, rfl⟩))
          go_roundg (xs.length - (k + 1))
          case measure => rw [HG.out]; omega
          case rel => exact ⟨k + 1, by omega, rfl, by rw [← e1.out], by rw [← e2.out], by go_num, rfl⟩
    · have ek : k = xs.length := by omega
      subst ek
      have i1 : ¬ (xs.length : Int) < (xs.length : Int) := by omega
      go_wp2
      exact bodyPost_ret (v := .tuple #[.int .i64 (msL xs xs.length).1, .float .f64 (msL xs xs.length).2]) (by simp [results, Tryd.results6, go_sem]) rfl ⟨rfl, rfl⟩
end Go.Proofs.YtmffalpckdkabaaDoor

namespace Go.Proofs.YtmffalpckdkabaaDoor
open Go.RowKit

theorem Tryd.infoF : (Tryd.prog.info? 24).map (fun i => (i.zero, i.size, i.bytes)) = some (some (.float .f64 0), 1, 8) := by kernel_rfl
/-- A new row of floats. -/
def RRow (w : World) (b n : Nat) (f : Nat → Nat) : Prop := w.rowIs b 24 n (fun j => .float .f64 (f j))
theorem RRow.set {w : World} {b n : Nat} {f : Nat → Nat} (h : RRow w b n f) (i v : Nat) : RRow (w.setCell ⟨b, i, none⟩ (.float .f64 v)) b n (fun j => if j = i then v else f j) := by
  have := World.rowIs.set h i (.float .f64 v)
  refine World.rowIs.congr this fun j _ => ?_
  by_cases hj : j = i <;> simp [hj]
theorem RRow.congr {w : World} {b n : Nat} {f g : Nat → Nat} (h : RRow w b n f) (e : ∀ j, j < n → f j = g j) : RRow w b n g := World.rowIs.congr h fun j hj => by rw [e j hj]
theorem RRow.made (w : World) (n : Nat) : RRow (w.alloc (.cells (madeCells #[.float .f64 0] n) 24)) w.heap.size n (fun _ => 0) := World.rowIs_made w (.float .f64 0) n 24
theorem RRow.below {w w' : World} {b n B : Nat} {f : Nat → Nat} (h : RRow w b n f) (hb : Below B w w') (hB : b < B) : RRow w' b n f := World.rowIs.of_block h (hb.block b hB)
theorem RRow.grow {w : World} {b n : Nat} {f : Nat → Nat} {xs : List Nat} (h : RRow w b n f) (hn : xs.length = n) (hx : ∀ j, j < n → xs.getD j 0 = f j) : GRow w (some ⟨b, 0, none⟩) xs := by
  right
  refine ⟨b, 0, rfl, fun j hj => ?_⟩
  have := h.cell (i := j) (by omega)
  rw [Nat.zero_add, this, hx j (by omega)]
/-- The same by appending: floats as values. -/
def fv (xs : List Nat) : List Value := xs.map fun x => .float .f64 x
theorem fv_length (xs : List Nat) : (fv xs).length = xs.length := by simp [fv]
theorem fv_app (xs ys : List Nat) : fv (xs ++ ys) = fv xs ++ fv ys := by unfold fv; rw [List.map_append]
theorem fv_at {xs : List Nat} {j : Nat} (hj : j < xs.length) : (fv xs)[j]? = some (.float .f64 (xs.getD j 0)) := by
  unfold fv
  rw [List.getElem?_map, List.getElem?_eq_getElem hj, getD_at hj]; rfl
theorem owned_grow {w : World} {base : Nat} {t : TypeId} {v : Value} {xs : List Nat} (h : w.ownsRow base t 1 v xs.length (fv xs)) : ∃ ao cap, v = .slice ao xs.length cap ∧ GRow w ao xs ∧ xs.length ≤ cap ∧ Frs base ao := by
  obtain ⟨h1, h2⟩ := h
  rcases h2 with ⟨rfl, hn⟩ | ⟨g, cap, cur, rfl, hg, hh, hc⟩
  · exact ⟨none, 0, by rw [hn], Or.inl hn, by omega, Frs.none _⟩
  · refine ⟨some ⟨g, 0, none⟩, cap, rfl, Or.inr ⟨g, 0, rfl, fun j hj => ?_⟩, hc.1, fun a e => by cases e; exact hg⟩
    have own : w.ownsRow base t 1 (.slice (some ⟨g, 0, none⟩) xs.length cap) xs.length (fv xs) := ⟨h1, Or.inr ⟨g, cap, cur, rfl, hg, hh, hc⟩⟩
    rw [Nat.zero_add, own.cellAt j (by omega), fv_at hj]
theorem own_opW {w : World} {base : Nat} {e : TypeId} {v : Value} {n : Nat} {xs : List Value} (h : w.ownsRow base e 1 v n xs) (op : BinOp) (a b : Nat) : (opW op a b w).ownsRow base e 1 v n xs := by
  unfold opW
  split
  · exact h
  · exact h.drew
theorem opW_heap (op : BinOp) (a b : Nat) (w : World) : (opW op a b w).heap = w.heap := by
  unfold opW
  split <;> rfl
/-- A list of floats that is, place by place, what is told (a NaN as none). -/
def LN (os : List (Option Nat)) (rs : List Nat) : Prop := rs.length = os.length ∧ ∀ i, i < os.length → NR (os.getD i none) (rs.getD i 0)
theorem LN.fw {os : List (Option Nat)} {rs : List Nat} (h : LN os rs) : FW rs := by
  intro x hx
  obtain ⟨i, hi, rfl⟩ := List.getElem_of_mem hx
  have := (h.2 i (by rw [← h.1]; exact hi)).1
  rw [getD_at hi] at this
  exact this
theorem NR_sameB {o : Option Nat} {r s : Nat} (h : NR o r) (g : NR o s) : sameB r s = true := by
  cases o with
  | none =>
    have h1 : nanB r = true := h.2
    have h2 : nanB s = true := g.2
    unfold sameB; rw [h1, h2]; rfl
  | some v =>
    have e1 : r = v := h.2
    have e2 : s = v := g.2
    subst e1 e2
    unfold sameB
    cases nanB s <;> simp
theorem LN.same {os : List (Option Nat)} {rs ss : List Nat} (h : LN os rs) (g : LN os ss) : sameL rs ss = true :=
  sameL_yes (h.1.trans g.1.symm) fun j hj => NR_sameB (h.2 j (by rw [← h.1]; exact hj)) (g.2 j (by rw [← h.1]; exact hj))
/-- The list of what is told of each of n places. -/
def tab (n : Nat) (o : Nat → Option Nat) : List (Option Nat) := (List.range n).map o
theorem tab_len (n : Nat) (o : Nat → Option Nat) : (tab n o).length = n := by simp [tab]
theorem tab_at {n : Nat} {o : Nat → Option Nat} {i : Nat} (h : i < n) : (tab n o).getD i none = o i := by simp [tab, List.getD_eq_getElem?_getD, h]
theorem LN_tab {n : Nat} {o : Nat → Option Nat} {rs : List Nat} (hl : rs.length = n) (h : ∀ i, i < n → NR (o i) (rs.getD i 0)) : LN (tab n o) rs :=
  ⟨by rw [tab_len]; exact hl, fun i hi => by rw [tab_len] at hi; rw [tab_at hi]; exact h i hi⟩
def toL' (n : Nat) (f : Nat → Nat) : List Nat := (List.range n).map f
theorem toL'_len (n : Nat) (f : Nat → Nat) : (toL' n f).length = n := by simp [toL']
theorem toL'_at {n : Nat} {f : Nat → Nat} {i : Nat} (h : i < n) : (toL' n f).getD i 0 = f i := by simp [toL', List.getD_eq_getElem?_getD, h]
/-- A list handed back: what it is, in new memory. -/
def GaveF (w : World) (os : List (Option Nat)) (v : Value) (w' : World) : Prop := ∃ ao cap rs, v = .slice ao rs.length cap ∧ LN os rs ∧ GRow w' ao rs ∧ rs.length ≤ cap ∧ Frs w.heap.size ao ∧ Below w.heap.size w w'
theorem GaveF.nil {w w' : World} (h : Below w.heap.size w w') : GaveF w [] (.slice none 0 0) w' := ⟨none, 0, [], rfl, ⟨rfl, fun i hi => by simp at hi⟩, Or.inl rfl, Nat.le_refl _, Frs.none _, h⟩
theorem GaveF.row {w w' : World} {n : Nat} {f : Nat → Nat} {o : Nat → Option Nat} (h : RRow w' w.heap.size n f) (hN : ∀ i, i < n → NR (o i) (f i)) (hB : Below w.heap.size w w') : GaveF w (tab n o) (.slice (some ⟨w.heap.size, 0, none⟩) n n) w' :=
  ⟨some ⟨w.heap.size, 0, none⟩, n, toL' n f, by rw [toL'_len], LN_tab (toL'_len _ _) (fun i hi => by rw [toL'_at hi]; exact hN i hi), h.grow (toL'_len _ _) (fun j hj => toL'_at hj), by rw [toL'_len]; exact Nat.le_refl _, fun a e => by cases e; exact Nat.le_refl _, hB⟩
theorem GaveF.own {w w' : World} {v : Value} {rs : List Nat} {o : Nat → Option Nat} {n : Nat} {t : TypeId} (h : w'.ownsRow w.heap.size t 1 v rs.length (fv rs)) (hl : rs.length = n) (hN : ∀ i, i < n → NR (o i) (rs.getD i 0)) (hB : Below w.heap.size w w') : GaveF w (tab n o) v w' := by
  obtain ⟨ao, cap, rfl, h1, h2, h3⟩ := owned_grow h
  exact ⟨ao, cap, rs, rfl, LN_tab hl hN, h1, h2, h3, hB⟩
/-- Do two lists go together? -/
def fitN (n k : Nat) : Int := if n = k then (if 4096 < n then 3 else 0) else 4
def ifFit (n k : Nat) (l : List (Option Nat)) : List (Option Nat) := if fitN n k = 0 then l else []
set_option maxHeartbeats 400000 in
theorem fit_any (n k cap cap2 : Nat) (ao bo : Option Addr) (hn : n ≤ 1125899906842624) (_hk : k ≤ 1125899906842624) (w : World) :
    Calls Tryd.prog 35 #[.slice ao n cap, .slice bo k cap2] w fun e w' => e = .returned (.int .i64 (fitN n k)) ∧ w' = w := by
  unfold fitN
  by_cases h1 : n = k
  · rw [if_pos h1]
    have i1 : (n : Int) = (k : Int) := by omega
    by_cases h2 : 4096 < n
    · rw [if_pos h2]
      have i2 : (4096 : Int) < (n : Int) := by omega
      clear h1
      go_enter Tryd.func35, Tryd.ntmps35
      go_wp2
      go_ret
      exact ⟨rfl, rfl⟩
    · rw [if_neg h2]
      have i2 : ¬ (4096 : Int) < (n : Int) := by omega
      clear h1
      go_enter Tryd.func35, Tryd.ntmps35
      go_wp2
      go_ret
      exact ⟨rfl, rfl⟩
  · rw [if_neg h1]
    have i1 : ¬ (n : Int) = (k : Int) := by omega
    go_enter Tryd.func35, Tryd.ntmps35
    go_wp2
    go_ret
    exact ⟨rfl, rfl⟩
end Go.Proofs.YtmffalpckdkabaaDoor

namespace Go.Proofs.YtmffalpckdkabaaDoor
open Go.RowKit

/-- A float is stored. -/
theorem vstoref (P : Program) (a : Addr) (k : FloatKind) (b : Nat) (m : Mode) (w : World) : (store a (.float k b) m).run P w = stored P w a (.float k b) m := run_store P w a _ m rfl
theorem opS : FourOp .sub := Or.inr (Or.inl rfl)
theorem opMu : FourOp .mul := Or.inr (Or.inr (Or.inl rfl))
/-- At each place. -/
def adO (xs ys : List Nat) (k : Nat) : Option Nat := opO .add (toO (xs.getD k 0)) (toO (ys.getD k 0))
def sbO (xs ys : List Nat) (k : Nat) : Option Nat := opO .sub (toO (xs.getD k 0)) (toO (ys.getD k 0))
def scO (t : Nat) (xs : List Nat) (k : Nat) : Option Nat := opO .mul (toO t) (toO (xs.getD k 0))
def axO (t : Nat) (xs ys : List Nat) (k : Nat) : Option Nat := opO .add (opO .mul (toO t) (toO (xs.getD k 0))) (toO (ys.getD k 0))
set_option maxHeartbeats 1000000 in
theorem axpy1_any (n : Nat) (t b off cap b2 off2 cap2 T A B k x y : Nat) (w : World) (ht : t < 18446744073709551616) (hx : x < 18446744073709551616) (hy : y < 18446744073709551616) (hc : w.cell? ⟨b, off + k, none⟩ = some (.float .f64 x)) (hd : w.cell? ⟨b2, off2 + k, none⟩ = some (.float .f64 y)) (hk : k < n) (hT : w.cell? ⟨T, 0, none⟩ = some (.float .f64 t)) (hA : w.cell? ⟨A, 0, none⟩ = some (.slice (some ⟨b, off, none⟩) n cap)) (hB : w.cell? ⟨B, 0, none⟩ = some (.slice (some ⟨b2, off2, none⟩) n cap2)) :
    Calls Tryd.prog 34 #[.int .i64 k, .pointer (some ⟨T, 0, none⟩), .pointer (some ⟨A, 0, none⟩), .pointer (some ⟨B, 0, none⟩)] w fun e w' => ∃ r, e = .returned (.float .f64 r) ∧ NR (opO .add (opO .mul (toO t) (toO x)) (toO y)) r ∧ Below w.heap.size w w' := by
  have HN : Hid (∀ W W', NR (opO .add (opO .mul (toO t) (toO x)) (toO y)) (opR .add (opR .mul t x W) y W')) := fun W W' => opO_NR (Or.inl rfl) (opO_NR opMu (toO_NR ht) (toO_NR hx) W) (toO_NR hy) W'
  have HB := (Below.refl w.heap.size w).drew
  have HT : ∀ op p q, (opW op p q w.drew).cell? ⟨T, 0, none⟩ = some (.float .f64 t) := fun op p q => by unfold World.cell?; rw [opW_heap]; exact hT
  have HA : ∀ op p q, (opW op p q w.drew).cell? ⟨A, 0, none⟩ = some (.slice (some ⟨b, off, none⟩) n cap) := fun op p q => by unfold World.cell?; rw [opW_heap]; exact hA
  have HB2 : ∀ op p q, (opW op p q w.drew).cell? ⟨B, 0, none⟩ = some (.slice (some ⟨b2, off2, none⟩) n cap2) := fun op p q => by unfold World.cell?; rw [opW_heap]; exact hB
  have HX : ∀ op p q, (opW op p q w.drew).cell? ⟨b, off + k, none⟩ = some (.float .f64 x) := fun op p q => by unfold World.cell?; rw [opW_heap]; exact hc
  have HY : ∀ op p q, (opW op p q w.drew).cell? ⟨b2, off2 + k, none⟩ = some (.float .f64 y) := fun op p q => by unfold World.cell?; rw [opW_heap]; exact hd
  have h1 := fun x y w => run_op4 (P := Tryd.prog) (op := .add) (Or.inl rfl) 24 x y w
  have h2 := fun x y w => run_op4 (P := Tryd.prog) (op := .mul) opMu 24 x y w
  have hcv := conv64
  have i1 : (k : Int) < (n : Int) := by omega
  go_enter Tryd.func34, Tryd.ntmps34
  go_wp2
  go_region_with (fail)
  all_goals
    go_wp2
    go_ret
    exact ⟨_, rfl, HN.out _ _, opW_below .add _ y (opW_below .mul t x HB)⟩
theorem axpy1_all (t : Nat) (xs ys : List Nat) (ao bo : Option Addr) (cap cap2 T A B : Nat) (w : World) (ht : t < 18446744073709551616) (hr : GRow w ao xs) (hs : GRow w bo ys) (hF : FW xs) (hG : FW ys) (hl : ys.length = xs.length) (hT : w.cell? ⟨T, 0, none⟩ = some (.float .f64 t)) (hA : w.cell? ⟨A, 0, none⟩ = some (.slice ao xs.length cap)) (hB : w.cell? ⟨B, 0, none⟩ = some (.slice bo ys.length cap2)) (i : Nat) (wr : World) (hi : i < xs.length) (hb : Below w.heap.size w wr) :
    Calls Tryd.prog 34 #[.int .i64 i, .pointer (some ⟨T, 0, none⟩), .pointer (some ⟨A, 0, none⟩), .pointer (some ⟨B, 0, none⟩)] wr fun e w' => ∃ r, e = .returned (.float .f64 r) ∧ NR (axO t xs ys i) r ∧ Below wr.heap.size wr w' := by
  have hTw : wr.cell? ⟨T, 0, none⟩ = some (.float .f64 t) := by rw [hb.cell (World.block_lt_of_cell? w _ hT)]; exact hT
  have hAw : wr.cell? ⟨A, 0, none⟩ = some (.slice ao xs.length cap) := by rw [hb.cell (World.block_lt_of_cell? w _ hA)]; exact hA
  have hBw : wr.cell? ⟨B, 0, none⟩ = some (.slice bo xs.length cap2) := by rw [hb.cell (World.block_lt_of_cell? w _ hB), ← hl]; exact hB
  rcases hr.below hb with h | ⟨b, off, rfl, hc⟩
  · omega
  rcases hs.below hb with h | ⟨b2, off2, rfl, hd⟩
  · omega
  exact axpy1_any xs.length t b off cap b2 off2 cap2 T A B i _ _ wr ht (hF.at hi) (hG.at (by omega)) (hc i hi) (hd i (by omega)) hi hTw hAw hBw
set_option maxHeartbeats 1000000 in
theorem filled_axpy (o : Nat → Option Nat) (n T A B : Nat) (w : World) (hn : n ≤ 17592186044416) (hcl : ∀ (i : Nat) (wr : World), i < n → Below w.heap.size w wr → Calls Tryd.prog 34 #[.int .i64 i, .pointer (some ⟨T, 0, none⟩), .pointer (some ⟨A, 0, none⟩), .pointer (some ⟨B, 0, none⟩)] wr fun e w' => ∃ r, e = .returned (.float .f64 r) ∧ NR (o i) r ∧ Below wr.heap.size wr w') :
    Calls Tryd.prog 57 #[.int .i64 n, .func (.func 34) #[] #[.pointer (some ⟨T, 0, none⟩), .pointer (some ⟨A, 0, none⟩), .pointer (some ⟨B, 0, none⟩)]] w fun e w' => ∃ v, e = .returned v ∧ GaveF w (tab n o) v w' := by
  have hmk := run_make_row' (P := Tryd.prog) 22 24 (.float .f64 0) 8 Tryd.underlying22 Tryd.infoF rfl .i64 .i64 n (by omega) (by omega)
  have hmade := RRow.made w n
  have hbm : Below w.heap.size w (w.alloc (.cells (madeCells #[.float .f64 0] n) 24)) := (Below.refl _ _).alloc (Nat.le_refl _) _
  have hsz : w.heap.size < (w.alloc (.cells (madeCells #[.float .f64 0] n) 24)).heap.size := by simp
  go_enter Tryd.func57, Tryd.ntmps57
  go_wp2
  clear hmk
  go_loopg [6, 10] n (fun g _ i wr => ∃ (k : Nat) (f : Nat → Nat), k ≤ n ∧ g = n - k ∧ i = .int .i64 k ∧ Hid (∀ j, j < k → NR (o j) (f j)) ∧ Hid (RRow wr w.heap.size n (fun j => if j < k then f j else 0)) ∧ Hid (w.heap.size < wr.heap.size) ∧ Hid (Below w.heap.size w wr))
  case atStart => exact ⟨0, fun _ => 0, Nat.zero_le _, rfl, rfl, fun j hj => by omega, hmade.congr (fun j hj => by simp), hsz, hbm⟩
  case round =>
    obtain ⟨k, f, hk, hg, rfl, hN, hrow, hsz', hB⟩ := hrel
    have HG : Hid (gk = n - k) := hg
    clear hg hmade hbm hsz
    by_cases hlt : k < n
    · have cc := hcl k wr hlt hB.out
      have hst := vstoref Tryd.prog
      have i1 : (k : Int) < (n : Int) := by omega
      go_wp2_with (go_at_call 34; refine cc.mono ?_; rintro e w1 ⟨r, rfl, hr, b1⟩; have row1 := hrow.out.below b1 hsz'.out; have g2 := World.rowIs.cell row1 hlt; have g3 := World.rowIs.frozen row1 k)
      have hs := row1.set k r
      have hB1 : Below w.heap.size w (w1.setCell ⟨w.heap.size, k, none⟩ (.float .f64 r)) := (hB.out.trans (b1.mono hB.out.size)).setCell (Nat.le_refl _) _
      have hz : w.heap.size < (w1.setCell ⟨w.heap.size, k, none⟩ (.float .f64 r)).heap.size := by have := b1.size; have := hsz'.out; simp; omega
      go_roundg (n - (k + 1))
      case measure => rw [HG.out]; omega
      case rel =>
        refine ⟨k + 1, fun j => if j = k then r else f j, by omega, rfl, by go_num, fun j hj => ?_, hs.congr (fun j hj => ?_), hz, hB1⟩
        · by_cases e : j = k
          · subst e; simpa using hr
          · simp only [e, if_false]; exact hN.out j (by omega)
        · by_cases e : j = k
          · subst e; simp
          · simp only [e, if_false]
            by_cases e2 : j < k
            · rw [if_pos e2, if_pos (by omega)]
            · rw [if_neg e2, if_neg (by omega)]
    · have ek : k = n := by omega
      subst ek
      have i1 : ¬ (k : Int) < (k : Int) := by omega
      have hrow2 : RRow wr w.heap.size k f := hrow.out.congr (fun j hj => by rw [if_pos hj])
      have hG := GaveF.row hrow2 hN.out hB.out
      clear hrow2 hrow hN
      go_wp2
      go_ret
      exact ⟨_, rfl, hG⟩
set_option maxHeartbeats 1000000 in
theorem tog_axpy (o : Nat → Option Nat) (n m cap cap2 T A B : Nat) (ao bo : Option Addr) (w : World) (hn : n ≤ 17592186044416) (hm : m ≤ 17592186044416) (hcl : fitN n m = 0 → ∀ (i : Nat) (wr : World), i < n → Below w.heap.size w wr → Calls Tryd.prog 34 #[.int .i64 i, .pointer (some ⟨T, 0, none⟩), .pointer (some ⟨A, 0, none⟩), .pointer (some ⟨B, 0, none⟩)] wr fun e w' => ∃ r, e = .returned (.float .f64 r) ∧ NR (o i) r ∧ Below wr.heap.size wr w') :
    Calls Tryd.prog 33 #[.slice ao n cap, .slice bo m cap2, .func (.func 34) #[] #[.pointer (some ⟨T, 0, none⟩), .pointer (some ⟨A, 0, none⟩), .pointer (some ⟨B, 0, none⟩)]] w fun e w' => ∃ v, e = .returned (.tuple #[v, .int .i64 (fitN n m)]) ∧ GaveF w (ifFit n m (tab n o)) v w' := by
  have cf := fun w => fit_any n m cap cap2 ao bo (by omega) (by omega) w
  unfold ifFit
  by_cases hq : fitN n m = 0
  · rw [if_pos hq]
    have cg := filled_axpy o n T A B w hn (hcl hq)
    rw [hq] at cf ⊢
    clear hcl hq
    go_enter Tryd.func33, Tryd.ntmps33
    go_wp2_with (first
      | (go_at_call 35; refine (cf _).mono ?_; rintro e w' ⟨rfl, rfl⟩)
      | (go_at_call 57; refine cg.mono ?_; rintro e w1 ⟨v, rfl, hv⟩))
    exact bodyPost_ret (v := .tuple #[v, .int .i64 0]) (by simp [results, Tryd.results33, go_sem]) rfl ⟨v, rfl, hv⟩
  · rw [if_neg hq]
    have hG := GaveF.nil (Below.refl w.heap.size w)
    clear hcl
    generalize fitN n m = q at *
    go_enter Tryd.func33, Tryd.ntmps33
    go_wp2_with (go_at_call 35; refine (cf _).mono ?_; rintro e w' ⟨rfl, rfl⟩)
    exact bodyPost_ret (v := .tuple #[.slice none 0 0, .int .i64 q]) (by simp [results, Tryd.results33, go_sem]) rfl ⟨_, rfl, hG⟩
end Go.Proofs.YtmffalpckdkabaaDoor

namespace Go.Proofs.YtmffalpckdkabaaDoor
open Go.RowKit

theorem GaveF.up {w0 w w' : World} {os : List (Option Nat)} {v : Value} (h : GaveF w os v w') (hb : Below w0.heap.size w0 w) : GaveF w0 os v w' := by
  obtain ⟨ao, cap, rs, h1, h2, h3, h4, h5, h6⟩ := h
  exact ⟨ao, cap, rs, h1, h2, h3, h4, h5.mono hb.size, hb.trans (h6.mono hb.size)⟩
theorem al_two {w : World} (x y : Value) (s t : TypeId) : ((w.alloc (.cells #[x] s)).alloc (.cells #[y] t)).cell? ⟨w.heap.size, 0, none⟩ = some x ∧ ((w.alloc (.cells #[x] s)).alloc (.cells #[y] t)).cell? ⟨w.heap.size + 1, 0, none⟩ = some y ∧ Below w.heap.size w ((w.alloc (.cells #[x] s)).alloc (.cells #[y] t)) := by
  refine ⟨by go_simp, by go_simp, ((Below.refl _ _).alloc (Nat.le_refl _) _).alloc (by simp) _⟩
theorem al_three {w : World} (x y z : Value) (s t u : TypeId) : (((w.alloc (.cells #[x] s)).alloc (.cells #[y] t)).alloc (.cells #[z] u)).cell? ⟨w.heap.size, 0, none⟩ = some x ∧ (((w.alloc (.cells #[x] s)).alloc (.cells #[y] t)).alloc (.cells #[z] u)).cell? ⟨w.heap.size + 1, 0, none⟩ = some y ∧ (((w.alloc (.cells #[x] s)).alloc (.cells #[y] t)).alloc (.cells #[z] u)).cell? ⟨w.heap.size + 1 + 1, 0, none⟩ = some z ∧ Below w.heap.size w (((w.alloc (.cells #[x] s)).alloc (.cells #[y] t)).alloc (.cells #[z] u)) := by
  refine ⟨by go_simp, by go_simp, by go_simp, (((Below.refl _ _).alloc (Nat.le_refl _) _).alloc (by simp) _).alloc (by simp; omega) _⟩
theorem fit_len {n k : Nat} (h : fitN n k = 0) : k = n := by
  unfold fitN at h
  split at h
  · omega
  · omega
set_option maxHeartbeats 400000 in
theorem vaxpy_any (t : Nat) (xs ys : List Nat) (ao bo : Option Addr) (cap cap2 : Nat) (w : World) (ht : t < 18446744073709551616) (hr : GRow w ao xs) (hs : GRow w bo ys) (hF : FW xs) (hG : FW ys) (hn : xs.length ≤ 17592186044416) (hm : ys.length ≤ 17592186044416) :
    Calls Tryd.prog 16 #[.float .f64 t, .slice ao xs.length cap, .slice bo ys.length cap2] w fun e w' => ∃ v, e = .returned (.tuple #[v, .int .i64 (fitN xs.length ys.length)]) ∧ GaveF w (ifFit xs.length ys.length (tab xs.length (axO t xs ys))) v w' := by
  obtain ⟨t0, t1, t2, t3⟩ := al_three (w := w) (.float .f64 t) (.slice ao xs.length cap) (.slice bo ys.length cap2) 24 22 22
  have g1 := hr.below t3
  have g2 := hs.below t3
  have ct := tog_axpy (axO t xs ys) xs.length ys.length cap cap2 _ _ _ ao bo _ hn hm (fun hq => axpy1_all t xs ys ao bo cap cap2 _ _ _ _ ht g1 g2 hF hG (fit_len hq) t0 t1 t2)
  clear g1 g2 t1 t2 t0
  go_enter Tryd.func16, Tryd.ntmps16
  go_wp2_with (go_at_call 33; refine ct.mono ?_; rintro e w1 ⟨v, rfl, hv⟩)
  exact bodyPost_ret (v := .tuple #[v, .int .i64 (fitN xs.length ys.length)]) (by simp [results, Tryd.results16, go_sem]) rfl ⟨v, rfl, hv.up t3⟩
end Go.Proofs.YtmffalpckdkabaaDoor

namespace Go.Proofs.YtmffalpckdkabaaDoor
open Go.RowKit

/-- append to a row of the call's own, as one step of a region that draws its order. -/
theorem step_own {P : Program} {ops : Array Oper} {o : Oper} {a : Act} {w : World} {K : Act → World → Prop} {Q : Exit → Act → World → Prop} {E : Prop}
    (hg : o.guard = none) (s x : Operand) (t : TypeId) (ho : o.op = .call { callee := .builtin .append, args := #[s, x], argTypes := #[t, t] })
    (base : Nat) (e : TypeId) (i : TypeInfo) (z : Value) (size bytes : Nat) (ht : P.underlying t = some (.slice e)) (hi : P.info? e = some i) (hz : i.zero = some z)
    (hsize : i.size = size) (hby : i.bytes = bytes) (hzs : z.cells.size = size) (hsz : 0 < size)
    (v : Value) (n : Nat) (xs : List Value) (hs : a.eval s = v) (hown : w.ownsRow base e size v n xs)
    (ad : Addr) (m c : Nat) (news : List Value) (hx : a.eval x = .slice (some ad) m c) (hl : news.length = m * size) (hnews : ∀ j u, news[j]? = some u → w.cell? (ad.add j) = some u) (h1 : ∀ u ∈ news, u.oneCell' = true)
    (h63 : n + m ≤ maxLen) (hbytes : (n + m) * bytes ≤ 140737488355328) (hbase : base ≤ w.heap.size)
    (h : ∀ v' w', w'.ownsRow base e size v' (n + m) (xs ++ news) → w.grownBy w' v.ownBlock → (v' = .slice none 0 0 ↔ v = .slice none 0 0 ∧ m = 0) → K (a.put o.dst v') w') :
    if Region.wanted o (yielded ops a.tmps) = true then Oper.wp P o a w K Q else E := by
  have hw : Region.wanted o (yielded ops a.tmps) = true := by simp [Region.wanted, hg]
  rw [if_pos hw]
  exact wp_append_own w s x t ho base e i z size bytes ht hi hz hsize hby hzs hsz v n xs hs hown ad m c news hx hl hnews h1 h63 hbytes hbase h
theorem fv_snoc (rs : List Nat) (r : Nat) : fv (rs ++ [r]) = fv rs ++ [.float .f64 r] := by rw [fv_app]; rfl
theorem NR_snoc {o : Nat → Option Nat} {rs : List Nat} {k r : Nat} (hl : rs.length = k) (h : ∀ j, j < k → NR (o j) (rs.getD j 0)) (hr : NR (o k) r) : (rs ++ [r]).length = k + 1 ∧ ∀ j, j < k + 1 → NR (o j) ((rs ++ [r]).getD j 0) := by
  refine ⟨by simp [hl], fun j hj => ?_⟩
  by_cases e : j = k
  · subst e; subst hl
    rw [List.getD_eq_getElem?_getD, List.getElem?_append_right (Nat.le_refl _), Nat.sub_self]
    exact hr
  · have e2 : (rs ++ [r]).getD j 0 = rs.getD j 0 := by rw [List.getD_eq_getElem?_getD, List.getD_eq_getElem?_getD, List.getElem?_append_left (by omega)]
    rw [e2]
    exact h j (by omega)
theorem opW_size (op : BinOp) (a b : Nat) (w : World) : (opW op a b w).heap.size = w.heap.size := by rw [opW_heap]
end Go.Proofs.YtmffalpckdkabaaDoor

namespace Go.Proofs.YtmffalpckdkabaaDoor
open Go.RowKit

/-- The products of each two, each added to those before it. -/
def dtO (xs ys : List Nat) : Nat → Option Nat
  | 0 => some 0
  | k + 1 => opO .add (dtO xs ys k) (opO .mul (toO (xs.getD k 0)) (toO (ys.getD k 0)))
def dotF (xs ys : List Nat) : Option Nat := if fitN xs.length ys.length = 0 then dtO xs ys xs.length else some 0
theorem NR_zero : NR (some 0) 0 := ⟨by omega, rfl⟩
set_option maxHeartbeats 1000000 in
theorem vdot_any (xs ys : List Nat) (ao bo : Option Addr) (cap cap2 : Nat) (w : World) (hr : GRow w ao xs) (hs : GRow w bo ys) (hF : FW xs) (hG : FW ys) (hn : xs.length ≤ 17592186044416) (hm : ys.length ≤ 17592186044416) :
    Calls Tryd.prog 17 #[.slice ao xs.length cap, .slice bo ys.length cap2] w fun e w' => ∃ r, e = .returned (.tuple #[.float .f64 r, .int .i64 (fitN xs.length ys.length)]) ∧ NR (dotF xs ys) r ∧ Below w.heap.size w w' := by
  have cf := fun w => fit_any xs.length ys.length cap cap2 ao bo (by omega) (by omega) w
  unfold dotF
  by_cases hq : fitN xs.length ys.length = 0
  case neg =>
    rw [if_neg hq]
    generalize fitN xs.length ys.length = q at *
    go_enter Tryd.func17, Tryd.ntmps17
    go_wp2_with (go_at_call 35; refine (cf _).mono ?_; rintro e w' ⟨rfl, rfl⟩)
    exact bodyPost_ret (v := .tuple #[.float .f64 0, .int .i64 q]) (by simp [results, Tryd.results17, go_sem]) rfl ⟨_, rfl, NR_zero, Below.refl _ _⟩
  rw [if_pos hq]
  have HL : Hid (ys.length = xs.length) := fit_len hq
  rw [hq] at cf ⊢
  clear hq
  have h1 := fun x y w => run_op4 (P := Tryd.prog) (op := .add) (Or.inl rfl) 24 x y w
  have h2 := fun x y w => run_op4 (P := Tryd.prog) (op := .mul) opMu 24 x y w
  go_enter Tryd.func17, Tryd.ntmps17
  go_wp2_with (go_at_call 35; refine (cf _).mono ?_; rintro e w' ⟨rfl, h'⟩; subst w')
  go_loopg [7, 8, 17] xs.length (fun g s _ i wr => ∃ k r : Nat, k ≤ xs.length ∧ g = xs.length - k ∧ s = .float .f64 r ∧ i = .int .i64 k ∧ Hid (NR (dtO xs ys k) r) ∧ Hid (Below w.heap.size w wr))
  case atStart => exact ⟨0, 0, Nat.zero_le _, rfl, rfl, rfl, NR_zero, Below.refl _ _⟩
  case round =>
    obtain ⟨k, r, hk, hg, rfl, rfl, hN, hBl⟩ := hrel
    have HG : Hid (gk = xs.length - k) := hg
    clear hg
    by_cases hlt : k < xs.length
    · rcases hr.below hBl.out with h | ⟨b, off, rfl, hc⟩
      · omega
      rcases hs.below hBl.out with h | ⟨b2, off2, rfl, hd⟩
      · have := HL.out; omega
      have hlt2 : k < ys.length := by have := HL.out; omega
      have g1 := hc k hlt
      have g2 := hd k hlt2
      have hx := hF.at hlt
      have hy := hG.at hlt2
      obtain ⟨x, ex⟩ : ∃ x, xs.getD k 0 = x := ⟨_, rfl⟩
      obtain ⟨y, ey⟩ : ∃ y, ys.getD k 0 = y := ⟨_, rfl⟩
      rw [ex] at hx g1
      rw [ey] at hy g2
      have HS : Hid (∀ W W', NR (dtO xs ys (k + 1)) (opR .add r (opR .mul x y W) W')) := fun W W' => by
        rw [dtO, ex, ey]
        exact opO_NR (Or.inl rfl) hN.out (opO_NR opMu (toO_NR hx) (toO_NR hy) W) W'
      have HD := hBl.out.drew
      have i1 : (k : Int) < (xs.length : Int) := by omega
      have i2 : (k : Int) < (ys.length : Int) := by omega
      clear hc hd ex ey hN hlt2
      go_wp2
      go_region_with (fail)
      all_goals
       go_wp2
       go_roundg (xs.length - (k + 1))
       case measure => rw [HG.out]; omega
       case rel => exact ⟨k + 1, _, by omega, rfl, rfl, by go_num, HS.out _ _, opW_below .add _ _ (opW_below .mul x y HD)⟩
    · have ek : k = xs.length := by omega
      subst ek
      have i1 : ¬ (xs.length : Int) < (xs.length : Int) := by omega
      go_wp2
      exact bodyPost_ret (v := .tuple #[.float .f64 r, .int .i64 0]) (by simp [results, Tryd.results17, go_sem]) rfl ⟨_, rfl, hN.out, hBl.out⟩
/-- 1 or -1. -/
def oneW (s : Bool) : Nat := Ieee.double.word s 4607182418800017408
theorem one_parts (s : Bool) : oneW s < 18446744073709551616 ∧ finB (oneW s) = true ∧ sgn (oneW s) = s ∧ mg (rung (oneW s)) = 4503599627370496 ∧ up (rung (oneW s)) = 1022 := by
  cases s <;> decide
theorem mul_oneW (s : Bool) {x : Nat} (hx : x < 18446744073709551616) (hn : nanB x = false) : floatBits .mul .f64 (oneW s) x = some (Ieee.double.word (s ^^ sgn x) (rung x)) := by
  obtain ⟨o1, o2, o3, o4, o5⟩ := one_parts s
  have hr : rung x ≤ 9218868437227405312 := by unfold nanB at hn; simpa using hn
  rw [(fbits_map _ _).2.2.1, read_fin o1 o2, o3, o4, o5]
  by_cases hi : rung x = 9218868437227405312
  · rw [read_eq x hx, if_neg (by omega), if_pos hi, hi]
    simp only [Ieee.Datum.product]
    rw [Bool.xor_comm]; rfl
  · have fx : finB x = true := by unfold finB; simp; omega
    rw [read_fin hx fx]
    simp only [Ieee.Datum.product, Option.map_some, Ieee.Format.write, Option.some.injEq]
    by_cases h0 : rung x = 0
    · have m0 : mg (rung x) = 0 := by rw [h0]; decide
      rw [m0, h0, Nat.mul_zero]
      show Ieee.double.nearest _ 0 _ = _
      rfl
    · have hv := nearest_val (s ^^ sgn x) (4503599627370496 * mg (rung x)) (-1074 + (1022 : Nat) + (-1074 + (up (rung x) : Nat))) (mg (rung x)) (up (rung x)) (mg_lt _) (mg_ne h0) (mg_up_ok _) (Or.inr ⟨52, by omega, by rw [Nat.mul_comm]⟩)
      rw [hv]
      have e := rung_mg (rung x)
      rw [show min (up (rung x) * 4503599627370496 + mg (rung x)) 9218868437227405312 = rung x by omega]
theorem opO_one {x : Nat} (hx : x < 18446744073709551616) : opO .mul (toO 4607182418800017408) (toO x) = toO x := by
  have e1 : toO 4607182418800017408 = some (oneW false) := by decide
  rw [e1]
  cases hn : nanB x
  · have e2 : toO x = some x := by unfold toO; rw [hn]; rfl
    rw [e2]
    show floatBits .mul .f64 (oneW false) x = some x
    rw [mul_oneW false hx hn, Bool.false_xor, ← word_of hx]
  · have e2 : toO x = none := by unfold toO; rw [hn]; rfl
    rw [e2]; rfl
theorem ax_one {xs ys : List Nat} (hF : FW xs) {k : Nat} (hk : k < xs.length) : axO 4607182418800017408 xs ys k = adO xs ys k := by
  unfold axO adO
  rw [opO_one (hF.at hk)]
theorem tab_congr {n : Nat} {o p : Nat → Option Nat} (h : ∀ k, k < n → o k = p k) : tab n o = tab n p := by
  unfold tab
  apply List.map_congr_left
  intro a ha
  exact h a (List.mem_range.1 ha)
theorem ax_one_tab {xs ys : List Nat} (hF : FW xs) : tab xs.length (axO 4607182418800017408 xs ys) = tab xs.length (adO xs ys) := tab_congr fun _ hk => ax_one hF hk
end Go.Proofs.YtmffalpckdkabaaDoor

namespace Go.Proofs.YtmffalpckdkabaaDoor
open Go.RowKit

/-- A list that was written out, in new memory. -/
theorem lit_row (w : World) (cs : Array Value) (xs : List Nat) (t : TypeId) (h : cs.toList = fv xs) : GRow (w.alloc (.cells cs t)) (some ⟨w.heap.size, 0, none⟩) xs := by
  refine Or.inr ⟨w.heap.size, 0, rfl, fun j hj => ?_⟩
  have hc := cell_of_row (w.alloc (.cells cs t)) w.heap.size j cs t (0, 0) (heap_alloc_new _ _)
  rw [Nat.zero_add, hc]
  have : cs.toList[j]? = some (.float .f64 (xs.getD j 0)) := by rw [h]; exact fv_at hj
  simpa using this
theorem below_al (w : World) (o : Obj) : Below w.heap.size w (w.alloc o) := (Below.refl _ _).alloc (Nat.le_refl _) _
theorem LN_two {a b : Nat} {rs : List Nat} (h : LN [some a, some b] rs) : rs = [a, b] := by
  obtain ⟨h1, h2⟩ := h
  match rs, h1 with
  | [x, y], _ =>
    have e1 : x = a := (h2 0 (by simp)).2
    have e2 : y = b := (h2 1 (by simp)).2
    rw [e1, e2]
theorem aw_axpy : tab 2 (axO 4611686018427387904 [4607182418800017408, 4611686018427387904] [4613937818241073152, 4616189618054758400]) = [some 4617315517961601024, some 4620693217682128896] := by kernel_rfl
theorem aw_dot : dotF [4607182418800017408, 4611686018427387904] [4613937818241073152, 4616189618054758400] = some 4622382067542392832 := by kernel_rfl
theorem aw_most : msL [4613937818241073152, 13839561654909534208, 4616189618054758400] 3 = (1, 4616189618054758400) := by kernel_rfl
theorem aw_norm : nrO [4613937818241073152, 13839561654909534208] 2 = some 4619567317775286272 := by kernel_rfl
theorem fw2 {a b : Nat} (ha : a < 18446744073709551616) (hb : b < 18446744073709551616) : FW [a, b] := fun x hx => by
  simp at hx; rcases hx with rfl | rfl <;> assumption
theorem aw_ax (ao bo : Option Addr) (w : World) (g1 : GRow w ao [4607182418800017408, 4611686018427387904]) (g2 : GRow w bo [4613937818241073152, 4616189618054758400]) :
    Calls Tryd.prog 16 #[.float .f64 4611686018427387904, .slice ao 2 2, .slice bo 2 2] w fun e w' => ∃ ao cap, e = .returned (.tuple #[.slice ao 2 cap, .int .i64 0]) ∧ GRow w' ao [4617315517961601024, 4620693217682128896] ∧ Below w.heap.size w w' := by
  have h := vaxpy_any 4611686018427387904 [4607182418800017408, 4611686018427387904] [4613937818241073152, 4616189618054758400] ao bo 2 2 w (by omega) g1 g2 (fw2 (by omega) (by omega)) (fw2 (by omega) (by omega)) (by simp) (by simp)
  refine Calls.mono h ?_
  rintro e w' ⟨v, rfl, co, cap, rs, rfl, h2, h3, _, _, h6⟩
  have e1 : ifFit 2 2 (tab 2 (axO 4611686018427387904 [4607182418800017408, 4611686018427387904] [4613937818241073152, 4616189618054758400])) = [some 4617315517961601024, some 4620693217682128896] := aw_axpy
  have e2 : rs = [4617315517961601024, 4620693217682128896] := LN_two (by rw [← e1]; exact h2)
  subst e2
  exact ⟨co, cap, rfl, h3, h6⟩
theorem aw_dt (ao bo : Option Addr) (w : World) (g1 : GRow w ao [4607182418800017408, 4611686018427387904]) (g2 : GRow w bo [4613937818241073152, 4616189618054758400]) :
    Calls Tryd.prog 17 #[.slice ao 2 2, .slice bo 2 2] w fun e w' => e = .returned (.tuple #[.float .f64 4622382067542392832, .int .i64 0]) ∧ Below w.heap.size w w' := by
  have h := vdot_any [4607182418800017408, 4611686018427387904] [4613937818241073152, 4616189618054758400] ao bo 2 2 w g1 g2 (fw2 (by omega) (by omega)) (fw2 (by omega) (by omega)) (by simp) (by simp)
  refine Calls.mono h ?_
  rintro e w' ⟨r, rfl, h2, h3⟩
  rw [aw_dot] at h2
  have e2 : r = 4622382067542392832 := h2.2
  subst e2
  exact ⟨rfl, h3⟩
theorem aw_ms (ao : Option Addr) (w : World) (g1 : GRow w ao [4613937818241073152, 13839561654909534208, 4616189618054758400]) :
    Calls Tryd.prog 6 #[.slice ao 3 3] w fun e w' => e = .returned (.tuple #[.int .i64 1, .float .f64 4616189618054758400]) ∧ Below w.heap.size w w' := by
  have h := vmost_any [4613937818241073152, 13839561654909534208, 4616189618054758400] ao 3 w g1 (fun x hx => by simp at hx; omega) (by simp)
  refine Calls.mono h ?_
  rintro e w' ⟨rfl, rfl⟩
  have e1 : msL [4613937818241073152, 13839561654909534208, 4616189618054758400] [4613937818241073152, 13839561654909534208, 4616189618054758400].length = (1, 4616189618054758400) := aw_most
  rw [e1]
  exact ⟨rfl, Below.refl _ _⟩
theorem aw_sr (ao bo : Option Addr) (cap : Nat) (w : World) (g1 : GRow w ao [4617315517961601024, 4620693217682128896]) (g2 : GRow w bo [4617315517961601024, 4620693217682128896]) :
    Calls Tryd.prog 18 #[.slice ao 2 cap, .slice bo 2 2] w fun e w' => e = .returned (.bool true) ∧ Below w.heap.size w w' := by
  have h := sreals_any [4617315517961601024, 4620693217682128896] [4617315517961601024, 4620693217682128896] ao bo cap 2 w g1 g2 (fw2 (by omega) (by omega)) (fw2 (by omega) (by omega)) (by simp) (by simp)
  exact h
theorem aw_nm (ao : Option Addr) (w : World) (g1 : GRow w ao [4613937818241073152, 13839561654909534208]) :
    Calls Tryd.prog 5 #[.slice ao 2 2] w fun e w' => e = .returned (.float .f64 4619567317775286272) ∧ Below w.heap.size w w' := by
  have h := vnorm_any [4613937818241073152, 13839561654909534208] ao 2 w g1 (fw2 (by omega) (by omega)) (by simp)
  refine Calls.mono h ?_
  rintro e w' ⟨r, rfl, h2, h3⟩
  have e1 : nrO [4613937818241073152, 13839561654909534208] [4613937818241073152, 13839561654909534208].length = some 4619567317775286272 := aw_norm
  rw [e1] at h2
  have e2 : r = 4619567317775286272 := h2.2
  subst e2
  exact ⟨rfl, h3⟩
theorem aw_sm (ao bo : Option Addr) (w : World) (g1 : GRow w ao [0]) (g2 : GRow w bo [9223372036854775808]) :
    Calls Tryd.prog 19 #[.slice ao 1 1, .slice bo 1 1] w fun e w' => e = .returned (.bool false) ∧ Below w.heap.size w w' := by
  have h := vsame_any [0] [9223372036854775808] ao bo 1 1 w g1 g2 (fun x hx => by simp at hx; omega) (fun x hx => by simp at hx; omega) (by simp) (by simp)
  exact h
set_option maxHeartbeats 400000 in
theorem aw_cs (w : World) : Calls Tryd.prog 20 #[.float .f64 0, .float .f64 13830554455654793216] w fun e w' => e = .returned (.float .f64 9223372036854775808) ∧ w' = w := by
  have f0 := run_fbits 0
  have f1 := run_fbits 13830554455654793216
  have ff := run_ffrom
  go_enter Tryd.func20, Tryd.ntmps20
  go_wp2
  go_ret
  exact ⟨rfl, rfl⟩
theorem row_at {w : World} {cs : Array Value} {xs : List Nat} {t : TypeId} {n : Nat} (hn : w.heap.size = n) (h : cs.toList = fv xs) : GRow (w.alloc (.cells cs t)) (some ⟨n, 0, none⟩) xs := by
  subst hn; exact lit_row w cs xs t h
theorem row_on {w : World} {ao : Option Addr} {xs : List Nat} (h : GRow w ao xs) (o : Obj) : GRow (w.alloc o) ao xs := h.below (below_al w o)
set_option maxRecDepth 100000 in
set_option maxHeartbeats 2000000 in
theorem vawake (w : World) : Calls Tryd.prog 4 #[] w fun e w' => e = .returned (.bool true) ∧ Below w.heap.size w w' := by
  have HB0 : Below w.heap.size w w := Below.refl _ _
  go_enter Tryd.func4, Tryd.ntmps4
  go_wp2_with (first
    | (go_at_call 16; refine (aw_ax _ _ _ (row_on (row_at rfl rfl) _) (row_at (by simp) rfl)).mono ?_; rintro e w1 ⟨co, cap, rfl, hx, b1⟩; have B1 := ((HB0.alloc (Nat.le_refl _) _).alloc (by simp) _).trans (b1.mono (by simp; omega)); have r1 := (row_on (row_at (w := w) (xs := [4607182418800017408, 4611686018427387904]) rfl rfl) _).below b1; have r2 := (row_at (xs := [4613937818241073152, 4616189618054758400]) (n := w.heap.size + 1) (by simp) rfl).below b1)
    | (go_at_call 17; refine (aw_dt _ _ _ r1 r2).mono ?_; rintro e w2 ⟨rfl, b2⟩; have B2 := B1.trans (b2.mono B1.size); have hx2 := hx.below b2)
    | (go_at_call 6; refine (aw_ms _ _ (row_at rfl rfl)).mono ?_; rintro e w3 ⟨rfl, b3⟩; have B3 := (B2.alloc B2.size _).trans (b3.mono (by have := B2.size; simp; omega)); have hx3 := (row_on hx2 _).below b3)
    | (go_at_call 18; refine (aw_sr _ _ _ _ (row_on hx3 _) (row_at rfl rfl)).mono ?_; rintro e w4 ⟨rfl, b4⟩; have B4 := (B3.alloc B3.size _).trans (b4.mono (by have := B3.size; simp; omega)))
    | (go_at_call 5; refine (aw_nm _ _ (row_at rfl rfl)).mono ?_; rintro e w5 ⟨rfl, b5⟩; have B5 := (B4.alloc B4.size _).trans (b5.mono (by have := B4.size; simp; omega)))
    | (go_at_call 20; refine (aw_cs _).mono ?_; rintro e w' ⟨rfl, h'⟩; subst w')
    | (go_at_call 19; refine (aw_sm _ _ _ (row_on (row_at rfl rfl) _) (row_at (by simp) rfl)).mono ?_; rintro e w6 ⟨rfl, b6⟩; have B6 := ((B5.alloc B5.size _).alloc (by have := B5.size; simp; omega) _).trans (b6.mono (by have := B5.size; simp; omega))))
  go_ret
  exact ⟨rfl, B6⟩
end Go.Proofs.YtmffalpckdkabaaDoor
