/- The closures of Make, Identity, Transpose, Sub and Mul; a sum of products in order. -/
import Derived.Test.YtfhejejfeffdcaaDoorU2
import Derived.Test.YtfhejejfeffdcaaDoorU3
import Derived.Laws.OwnMore
import Derived.Deep.AppendLies
import Derived.Deep.RegionHeld3
namespace Go.Proofs.YtfhejejfeffdcaaDoor
open Go.RowKit

theorem u64_up {x : Nat} (h : x + 1 < 18446744073709551616) : IntKind.u64.wrap ((x : Int) + 1) = ((x + 1 : Nat) : Int) := by
  rw [IntKind.wrap_u64]; omega
theorem u64_dn {x : Nat} (h : x < 18446744073709551616) (h0 : x ≠ 0) : IntKind.u64.wrap ((x : Int) - 1) = ((x - 1 : Nat) : Int) := by
  rw [IntKind.wrap_u64]; omega
theorem nan_two {x : Nat} (hn : nanB x = false) (h0 : rung x ≠ 0) : (!nanB x && decide (0 < place x)) = !sgn x ∧ (!nanB x && decide (place x < 0)) = sgn x := by
  rw [hn]
  unfold place
  cases sgn x <;> simp <;> omega
end Go.Proofs.YtfhejejfeffdcaaDoor

namespace Go.Proofs.YtfhejejfeffdcaaDoor
open Go.RowKit

/-- The document's answer for a finite sum. -/
def refM (a b n r : Nat) (m : Int) : Nat := if finB n then (if rung n == 0 then noughtR (rung a == 0) (sgn a) b m else sideR n (signF r) m) else greatR n m
/-- Both tell the same. -/
theorem refM_addM {a b n t r : Nat} {c : Bool} (m : Int) (ha : a < 18446744073709551616) (hb : b < 18446744073709551616) (fa : finB a = true) (fb : finB b = true)
    (hnl : n < 18446744073709551616) (hni : rung n ≤ 9218868437227405312) (h00 : rung n = 0 → sgn a = sgn b → rung a = 0 ∧ rung b = 0)
    (ht : floatBits .sub .f64 n (if c then b else a) = some t) (hr : floatBits .sub .f64 (if c then a else b) t = some r) : refM a b n r m = addM a b n r m := by
  unfold refM addM
  cases fn : finB n
  · have hi : rung n = 9218868437227405312 := by unfold finB at fn; simp at fn; omega
    have e1 : (rung n == 0) = false := by rw [hi]; rfl
    have hx : (if c then b else a) < 18446744073709551616 ∧ finB (if c then b else a) = true ∧ (if c then a else b) < 18446744073709551616 ∧ finB (if c then a else b) = true := by cases c <;> exact ⟨by assumption, by assumption, by assumption, by assumption⟩
    obtain ⟨g1, g2, g3⟩ := rest_inf hnl hi hx.1 hx.2.1 hx.2.2.1 hx.2.2.2
    rw [g1] at ht
    obtain rfl : n = t := Option.some.inj ht
    rw [g2] at hr
    obtain rfl : negW n = r := Option.some.inj hr
    rw [e1, g3]
    simp only [Bool.false_eq_true, if_false]
    exact (step_great m hnl hi).symm
  · cases e1 : (rung n == 0)
    · simp only [Bool.false_eq_true, if_false, if_true]
      exact (step_side _ m hnl (fin_rung fn) (by simpa using e1)).symm
    · simp only [if_true]
      unfold noughtR noughtF
      cases hs : (sgn a == sgn b)
      · simp
      · have hs' : sgn a = sgn b := by simpa using hs
        obtain ⟨r1, r2⟩ := h00 (by simpa using e1) hs'
        rw [r1, r2]
        simp only [beq_self_eq_true, Bool.and_true, if_true]
        rcases word_two ha with ⟨w1, s1⟩ | ⟨w1, s1⟩ <;> rcases word_two hb with ⟨w2, s2⟩ | ⟨w2, s2⟩ <;> rw [s1, s2] at hs' <;> first | (cases hs'; done) | omega
end Go.Proofs.YtfhejejfeffdcaaDoor

namespace Go.Proofs.YtfhejejfeffdcaaDoor
open Go.RowKit

end Go.Proofs.YtfhejejfeffdcaaDoor

namespace Go.Proofs.YtfhejejfeffdcaaDoor
open Go.RowKit

/-- A sum upwards, of any two floats. -/
def adU (a b : Nat) : Option Nat := if finB a && finB b then some (addV a b 2) else floatBits .add .f64 a b
theorem vnan_fin {s : Nat} (h : nanB s = true) : finB s = false := by
  unfold nanB at h; unfold finB
  simp only [decide_eq_true_eq] at h
  simp; omega
theorem adU_nan {a b : Nat} (ha : a < 18446744073709551616) (hb : b < 18446744073709551616) (h : nanB a = true ∨ nanB b = true) : adU a b = none := by
  unfold adU
  have hf : (finB a && finB b) = false := by
    rcases h with h | h
    · rw [vnan_fin h, Bool.false_and]
    · rw [vnan_fin h, Bool.and_false]
  rw [hf]
  exact op_nan (op := .add) (Or.inl rfl) ha hb h
theorem padd_up (a b : Nat) (ha : a < 18446744073709551616) (hb : b < 18446744073709551616) (w : World) :
    Calls Tryd.prog 32 #[.float .f64 a, .float .f64 b, .int .i8 2] w fun e w' => ∃ r, e = .returned (.float .f64 r) ∧ NR (adU a b) r ∧ Below w.heap.size w w' := by
  unfold adU
  cases h : (finB a && finB b)
  · simp only [Bool.false_eq_true, if_false]
    refine (radd_inf a b 2 ha hb (by cases fa : finB a; exact Or.inl rfl; rw [fa] at h; exact Or.inr (by simpa using h)) w).mono ?_
    rintro e w' ⟨⟨r, rfl, h1⟩, h2⟩
    exact ⟨r, rfl, h1, h2⟩
  · have fa : finB a = true := by revert h; cases finB a <;> simp
    have fb : finB b = true := by revert h; cases finB b <;> simp
    simp only [if_true]
    refine (radd_gen a b 2 ha hb fa fb w).mono ?_
    rintro e w' ⟨rfl, rfl⟩
    exact ⟨_, rfl, ⟨addV_lt 2 ha hb fa fb, rfl⟩, Below.refl _ _⟩
/-- The sizes of the first k floats summed, each sum upwards. -/
def nrO (xs : List Nat) : Nat → Option Nat
  | 0 => some 0
  | k + 1 => (nrO xs k).bind fun s => adU s (rung (xs.getD k 0))
theorem vrung64 (a : Nat) : rung a < 18446744073709551616 := by have := rung_lt a; omega
theorem nrO_step {xs : List Nat} {k s r : Nat} (h : NR (nrO xs k) s) (hr : NR (adU s (rung (xs.getD k 0))) r) : NR (nrO xs (k + 1)) r := by
  show NR ((nrO xs k).bind _) r
  cases ho : nrO xs k with
  | none =>
    rw [ho] at h
    rw [adU_nan h.1 (vrung64 _) (Or.inl h.2)] at hr
    exact hr
  | some v =>
    rw [ho] at h
    have e : s = v := h.2
    subst e
    exact hr
/-- The place of the greatest size so far, and that size. -/
def msL (xs : List Nat) : Nat → Int × Nat
  | 0 => (-1, 0)
  | k + 1 => if nanB (xs.getD k 0) = false ∧ ((msL xs k).1 < 0 ∨ (msL xs k).2 < rung (xs.getD k 0)) then ((k : Int), rung (xs.getD k 0)) else msL xs k
theorem msL_bounds (xs : List Nat) (k : Nat) : -1 ≤ (msL xs k).1 ∧ (msL xs k).1 < k ∧ (msL xs k).2 ≤ 9218868437227405312 := by
  induction k with
  | zero => exact ⟨by simp [msL], by simp [msL], by simp [msL]⟩
  | succ k ih =>
    unfold msL
    split
    · rename_i h
      refine ⟨by omega, by omega, ?_⟩
      have := h.1
      unfold nanB at this
      simpa using this
    · exact ⟨ih.1, by omega, ih.2.2⟩
theorem msL_yes {xs : List Nat} {k : Nat} (h1 : nanB (xs.getD k 0) = false) (h2 : (msL xs k).1 < 0 ∨ (msL xs k).2 < rung (xs.getD k 0)) : msL xs (k + 1) = ((k : Int), rung (xs.getD k 0)) := by
  show (if _ then _ else _) = _
  rw [if_pos ⟨h1, h2⟩]
theorem msL_no {xs : List Nat} {k : Nat} (h : nanB (xs.getD k 0) = true ∨ (0 ≤ (msL xs k).1 ∧ rung (xs.getD k 0) ≤ (msL xs k).2)) : msL xs (k + 1) = msL xs k := by
  show (if _ then _ else _) = _
  rw [if_neg]
  rintro ⟨h1, h2⟩
  rcases h with h | ⟨h3, h4⟩
  · rw [h1] at h; cases h
  · omega
theorem nan_rung (x : Nat) : nanB (rung x) = nanB x := by
  unfold nanB
  rw [rung_small (rung_lt x)]
theorem size_gt {u v : Nat} (hu : u ≤ 9218868437227405312) (hv : v ≤ 9218868437227405312) : (FloatKind.f64.format.order u v == some .gt) = decide (v < u) := by
  have nu := nan_small hu
  have nv := nan_small hv
  rw [ord_num (by omega) (by omega) nu nv, place_small (by omega), place_small (by omega)]
  rw [cmp_gt]
  by_cases h : v < u
  · rw [decide_eq_true h]; exact decide_eq_true (by omega)
  · rw [decide_eq_false h]; exact decide_eq_false (by omega)
theorem size_gt_nan {u v : Nat} (hu : u < 18446744073709551616) (hv : v < 18446744073709551616) (h : nanB u = true) : (FloatKind.f64.format.order u v == some .gt) = false := by
  rw [ord_nan hu hv (Or.inl h)]; rfl
end Go.Proofs.YtfhejejfeffdcaaDoor

namespace Go.Proofs.YtfhejejfeffdcaaDoor
open Go.RowKit

theorem Tryd.infoF : (Tryd.prog.info? 25).map (fun i => (i.zero, i.size, i.bytes)) = some (some (.float .f64 0), 1, 8) := by kernel_rfl
/-- A new row of floats. -/
def RRow (w : World) (b n : Nat) (f : Nat → Nat) : Prop := w.rowIs b 25 n (fun j => .float .f64 (f j))
theorem RRow.set {w : World} {b n : Nat} {f : Nat → Nat} (h : RRow w b n f) (i v : Nat) : RRow (w.setCell ⟨b, i, none⟩ (.float .f64 v)) b n (fun j => if j = i then v else f j) := by
  have := World.rowIs.set h i (.float .f64 v)
  refine World.rowIs.congr this fun j _ => ?_
  by_cases hj : j = i <;> simp [hj]
theorem RRow.congr {w : World} {b n : Nat} {f g : Nat → Nat} (h : RRow w b n f) (e : ∀ j, j < n → f j = g j) : RRow w b n g := World.rowIs.congr h fun j hj => by rw [e j hj]
theorem RRow.made (w : World) (n : Nat) : RRow (w.alloc (.cells (madeCells #[.float .f64 0] n) 25)) w.heap.size n (fun _ => 0) := World.rowIs_made w (.float .f64 0) n 25
theorem RRow.below {w w' : World} {b n B : Nat} {f : Nat → Nat} (h : RRow w b n f) (hb : Below B w w') (hB : b < B) : RRow w' b n f := World.rowIs.of_block h (hb.block b hB)
theorem RRow.grow {w : World} {b n : Nat} {f : Nat → Nat} {xs : List Nat} (h : RRow w b n f) (hn : xs.length = n) (hx : ∀ j, j < n → xs.getD j 0 = f j) : GRow w (some ⟨b, 0, none⟩) xs := by
  right
  refine ⟨b, 0, rfl, fun j hj => ?_⟩
  have := h.cell (i := j) (by omega)
  rw [Nat.zero_add, this, hx j (by omega)]
/-- The same by appending: floats as values. -/
def fv (xs : List Nat) : List Value := xs.map fun x => .float .f64 x
theorem fv_length (xs : List Nat) : (fv xs).length = xs.length := by simp [fv]
theorem fv_app (xs ys : List Nat) : fv (xs ++ ys) = fv xs ++ fv ys := by unfold fv; rw [List.map_append]
theorem fv_at {xs : List Nat} {j : Nat} (hj : j < xs.length) : (fv xs)[j]? = some (.float .f64 (xs.getD j 0)) := by
  unfold fv
  rw [List.getElem?_map, List.getElem?_eq_getElem hj, getD_at hj]; rfl
theorem owned_grow {w : World} {base : Nat} {t : TypeId} {v : Value} {xs : List Nat} (h : w.ownsRow base t 1 v xs.length (fv xs)) : ∃ ao cap, v = .slice ao xs.length cap ∧ GRow w ao xs ∧ xs.length ≤ cap ∧ Frs base ao := by
  obtain ⟨h1, h2⟩ := h
  rcases h2 with ⟨rfl, hn⟩ | ⟨g, cap, cur, rfl, hg, hh, hc⟩
  · exact ⟨none, 0, by rw [hn], Or.inl hn, by omega, Frs.none _⟩
  · refine ⟨some ⟨g, 0, none⟩, cap, rfl, Or.inr ⟨g, 0, rfl, fun j hj => ?_⟩, hc.1, fun a e => by cases e; exact hg⟩
    have own : w.ownsRow base t 1 (.slice (some ⟨g, 0, none⟩) xs.length cap) xs.length (fv xs) := ⟨h1, Or.inr ⟨g, cap, cur, rfl, hg, hh, hc⟩⟩
    rw [Nat.zero_add, own.cellAt j (by omega), fv_at hj]
theorem own_opW {w : World} {base : Nat} {e : TypeId} {v : Value} {n : Nat} {xs : List Value} (h : w.ownsRow base e 1 v n xs) (op : BinOp) (a b : Nat) : (opW op a b w).ownsRow base e 1 v n xs := by
  unfold opW
  split
  · exact h
  · exact h.drew
theorem opW_heap (op : BinOp) (a b : Nat) (w : World) : (opW op a b w).heap = w.heap := by
  unfold opW
  split <;> rfl
/-- A list of floats that is, place by place, what is told (a NaN as none). -/
def LN (os : List (Option Nat)) (rs : List Nat) : Prop := rs.length = os.length ∧ ∀ i, i < os.length → NR (os.getD i none) (rs.getD i 0)
theorem LN.fw {os : List (Option Nat)} {rs : List Nat} (h : LN os rs) : FW rs := by
  intro x hx
  obtain ⟨i, hi, rfl⟩ := List.getElem_of_mem hx
  have := (h.2 i (by rw [← h.1]; exact hi)).1
  rw [getD_at hi] at this
  exact this
theorem NR_sameB {o : Option Nat} {r s : Nat} (h : NR o r) (g : NR o s) : sameB r s = true := by
  cases o with
  | none =>
    have h1 : nanB r = true := h.2
    have h2 : nanB s = true := g.2
    unfold sameB; rw [h1, h2]; rfl
  | some v =>
    have e1 : r = v := h.2
    have e2 : s = v := g.2
    subst e1 e2
    unfold sameB
    cases nanB s <;> simp
theorem LN.same {os : List (Option Nat)} {rs ss : List Nat} (h : LN os rs) (g : LN os ss) : sameL rs ss = true :=
  sameL_yes (h.1.trans g.1.symm) fun j hj => NR_sameB (h.2 j (by rw [← h.1]; exact hj)) (g.2 j (by rw [← h.1]; exact hj))
/-- The list of what is told of each of n places. -/
def tab (n : Nat) (o : Nat → Option Nat) : List (Option Nat) := (List.range n).map o
theorem tab_len (n : Nat) (o : Nat → Option Nat) : (tab n o).length = n := by simp [tab]
theorem tab_at {n : Nat} {o : Nat → Option Nat} {i : Nat} (h : i < n) : (tab n o).getD i none = o i := by simp [tab, List.getD_eq_getElem?_getD, h]
theorem LN_tab {n : Nat} {o : Nat → Option Nat} {rs : List Nat} (hl : rs.length = n) (h : ∀ i, i < n → NR (o i) (rs.getD i 0)) : LN (tab n o) rs :=
  ⟨by rw [tab_len]; exact hl, fun i hi => by rw [tab_len] at hi; rw [tab_at hi]; exact h i hi⟩
def toL' (n : Nat) (f : Nat → Nat) : List Nat := (List.range n).map f
theorem toL'_len (n : Nat) (f : Nat → Nat) : (toL' n f).length = n := by simp [toL']
theorem toL'_at {n : Nat} {f : Nat → Nat} {i : Nat} (h : i < n) : (toL' n f).getD i 0 = f i := by simp [toL', List.getD_eq_getElem?_getD, h]
/-- A list handed back: what it is, in new memory. -/
def GaveF (w : World) (os : List (Option Nat)) (v : Value) (w' : World) : Prop := ∃ ao cap rs, v = .slice ao rs.length cap ∧ LN os rs ∧ GRow w' ao rs ∧ rs.length ≤ cap ∧ Frs w.heap.size ao ∧ Below w.heap.size w w'
theorem GaveF.nil {w w' : World} (h : Below w.heap.size w w') : GaveF w [] (.slice none 0 0) w' := ⟨none, 0, [], rfl, ⟨rfl, fun i hi => by simp at hi⟩, Or.inl rfl, Nat.le_refl _, Frs.none _, h⟩
theorem GaveF.row {w w' : World} {n : Nat} {f : Nat → Nat} {o : Nat → Option Nat} (h : RRow w' w.heap.size n f) (hN : ∀ i, i < n → NR (o i) (f i)) (hB : Below w.heap.size w w') : GaveF w (tab n o) (.slice (some ⟨w.heap.size, 0, none⟩) n n) w' :=
  ⟨some ⟨w.heap.size, 0, none⟩, n, toL' n f, by rw [toL'_len], LN_tab (toL'_len _ _) (fun i hi => by rw [toL'_at hi]; exact hN i hi), h.grow (toL'_len _ _) (fun j hj => toL'_at hj), by rw [toL'_len]; exact Nat.le_refl _, fun a e => by cases e; exact Nat.le_refl _, hB⟩
theorem GaveF.own {w w' : World} {v : Value} {rs : List Nat} {o : Nat → Option Nat} {n : Nat} {t : TypeId} (h : w'.ownsRow w.heap.size t 1 v rs.length (fv rs)) (hl : rs.length = n) (hN : ∀ i, i < n → NR (o i) (rs.getD i 0)) (hB : Below w.heap.size w w') : GaveF w (tab n o) v w' := by
  obtain ⟨ao, cap, rfl, h1, h2, h3⟩ := owned_grow h
  exact ⟨ao, cap, rs, rfl, LN_tab hl hN, h1, h2, h3, hB⟩
/-- Do two lists go together? -/
def fitN (n k : Nat) : Int := if n = k then (if 4096 < n then 3 else 0) else 4
def ifFit (n k : Nat) (l : List (Option Nat)) : List (Option Nat) := if fitN n k = 0 then l else []
end Go.Proofs.YtfhejejfeffdcaaDoor

namespace Go.Proofs.YtfhejejfeffdcaaDoor
open Go.RowKit

/-- A matrix as a value. -/
abbrev mxV (r c : Int) (ao : Option Addr) (n cap : Nat) : Value := .agg #[.int .i64 r, .int .i64 c, .slice ao n cap]
/-- A later world. -/
structure LOf (W : World) where
  val : World
  below : Below W.heap.size W val
theorem region_later {P : Program} {id : Nat} {Q : Exit → Act → World → Prop} {a : Act} {w : World} {l : List Oper} (hm : P.follows .mixedOrders = true) (hB : Region.lexB .any l.toArray = true)
    (h : wpQuiet P l.toArray (fun w' => ∃ u : LOf w, w' = u.val) (fun a' => ∀ w', (∃ u : LOf w, w' = u.val) → Q .normal a' w') l a) : (Code.region id l.toArray true).wp P Q a w :=
  wp_region_quiet (C := fun w' => ∃ u : LOf w, w' = u.val) hm hB ⟨⟨w.drew, (Below.refl _ _).drew⟩, rfl⟩ h
theorem later_of {P : Program} {f : Nat} {args : Array Value} {W : World} {u : LOf W} {v : Value} (h : Calls P f args u.val fun e w' => e = .returned v ∧ Below u.val.heap.size u.val w') : Calls P f args u.val fun e w'' => e = .returned v ∧ ∃ u' : LOf W, w'' = u'.val :=
  h.mono fun _ w' ⟨he, hb⟩ => ⟨he, ⟨w', u.below.trans (hb.mono u.below.size)⟩, rfl⟩
theorem later_same {P : Program} {f : Nat} {args : Array Value} {W : World} {u : LOf W} {v : Value} (h : Calls P f args u.val fun e w' => e = .returned v ∧ w' = u.val) : Calls P f args u.val fun e w'' => e = .returned v ∧ ∃ u' : LOf W, w'' = u'.val :=
  h.mono fun _ _ ⟨he, hb⟩ => ⟨he, u, hb⟩
theorem LOf.cell {W : World} (u : LOf W) {p : Addr} {v : Value} (h : W.cell? p = some v) : u.val.cell? p = some v := by
  rw [u.below.cell (World.block_lt_of_cell? W _ h)]; exact h
theorem LOf.any (W : World) : Nonempty (LOf W) := ⟨⟨W, Below.refl _ _⟩⟩
theorem LOf.row {W : World} (u : LOf W) {ao : Option Addr} {xs : List Nat} (h : GRow W ao xs) : GRow u.val ao xs := h.below u.below
/-- May there be so many rows, or columns? -/
def okN (n : Int) : Bool := decide (0 ≤ n) && decide (n ≤ 48)
theorem okN_iff {n : Int} : okN n = true ↔ 0 ≤ n ∧ n ≤ 48 := by unfold okN; simp
theorem okN_nat {n : Int} (h : okN n = true) : ∃ k : Nat, n = k ∧ k ≤ 48 := by
  obtain ⟨h1, h2⟩ := okN_iff.1 h
  exact ⟨n.toNat, by omega, by omega⟩
def rightM (r c : Int) (n : Nat) : Bool := okN r && okN c && decide ((n : Int) = r * c)
theorem mul48 {i c : Nat} (hi : i ≤ 48) (hc : c ≤ 48) : i * c ≤ 2304 := Nat.le_trans (Nat.mul_le_mul hi hc) (by decide)
theorem mulI {i c : Nat} : (i : Int) * (c : Int) = ((i * c : Nat) : Int) := (Int.natCast_mul i c).symm
theorem rightM_nat {r c : Int} {n : Nat} (h : rightM r c n = true) : ∃ R C : Nat, r = R ∧ c = C ∧ R ≤ 48 ∧ C ≤ 48 ∧ n = R * C := by
  unfold rightM at h
  simp only [Bool.and_eq_true, decide_eq_true_eq] at h
  obtain ⟨⟨h1, h2⟩, h3⟩ := h
  obtain ⟨R, rfl, hR⟩ := okN_nat h1
  obtain ⟨C, rfl, hC⟩ := okN_nat h2
  refine ⟨R, C, rfl, rfl, hR, hC, ?_⟩
  rw [mulI] at h3
  exact Int.ofNat.inj h3
theorem rightM_yes {R C : Nat} (hR : R ≤ 48) (hC : C ≤ 48) : rightM R C (R * C) = true := by
  unfold rightM
  rw [okN_iff.2 ⟨by omega, by omega⟩, okN_iff.2 ⟨by omega, by omega⟩, mulI]
  simp
end Go.Proofs.YtfhejejfeffdcaaDoor

namespace Go.Proofs.YtfhejejfeffdcaaDoor
open Go.RowKit

/-- A box of three cells that may be written. -/
def B3 (w : World) (b : Nat) (x y z : Value) : Prop := w.cell? ⟨b, 0, none⟩ = some x ∧ w.cell? ⟨b, 1, none⟩ = some y ∧ w.cell? ⟨b, 2, none⟩ = some z ∧ w.frozen? ⟨b, 0, none⟩ = false ∧ w.frozen? ⟨b, 1, none⟩ = false ∧ w.frozen? ⟨b, 2, none⟩ = false ∧ b < w.heap.size
theorem B3.below {w w1 : World} {b : Nat} {x y z : Value} (h : B3 w b x y z) (hb : Below w.heap.size w w1) : B3 w1 b x y z := by
  obtain ⟨h0, h1, h2, g0, g1, g2, h5⟩ := h
  obtain ⟨hc, hf⟩ := oldc hb
  exact ⟨by rw [hc _ _ h5]; exact h0, by rw [hc _ _ h5]; exact h1, by rw [hc _ _ h5]; exact h2, by rw [hf _ _ h5]; exact g0, by rw [hf _ _ h5]; exact g1, by rw [hf _ _ h5]; exact g2, Nat.lt_of_lt_of_le h5 hb.size⟩
theorem B3.alloc {w : World} {b : Nat} {x y z : Value} (h : B3 w b x y z) (o : Obj) : B3 (w.alloc o) b x y z := h.below ((Below.refl _ _).alloc (Nat.le_refl _) o)
theorem B3.drew {w : World} {b : Nat} {x y z : Value} (h : B3 w b x y z) : B3 w.drew b x y z := h
theorem B3.new (w : World) (x y z : Value) (t : TypeId) : B3 (w.alloc (.cells #[x, y, z] t)) w.heap.size x y z := by
  refine ⟨?_, ?_, ?_, ?_, ?_, ?_, ?_⟩ <;> go_simp
theorem B3.newAt {w : World} {n : Nat} (hn : w.heap.size = n) (x y z : Value) (t : TypeId) : B3 (w.alloc (.cells #[x, y, z] t)) n x y z := by subst hn; exact B3.new w x y z t
theorem B3.far {w : World} {b : Nat} {x y z : Value} (h : B3 w b x y z) {c o : Nat} (hc : c ≠ b) (v : Value) : B3 (w.setCell ⟨c, o, none⟩ v) b x y z := by
  obtain ⟨h0, h1, h2, g0, g1, g2, h5⟩ := h
  have n : ∀ p, (⟨b, p, none⟩ : Addr) ≠ ⟨c, o, none⟩ := fun p e => hc (by cases e; rfl)
  have n' : ∀ p, (⟨c, o, none⟩ : Addr) ≠ ⟨b, p, none⟩ := fun p e => hc (by cases e; rfl)
  refine ⟨?_, ?_, ?_, ?_, ?_, ?_, ?_⟩
  · exact (World.cell?_setCell_other _ _ _ v (by first | exact n _ | exact n' _)).trans h0
  · exact (World.cell?_setCell_other _ _ _ v (by first | exact n _ | exact n' _)).trans h1
  · exact (World.cell?_setCell_other _ _ _ v (by first | exact n _ | exact n' _)).trans h2
  · simp [go_sem, g0]
  · simp [go_sem, g1]
  · simp [go_sem, g2]
  · simp [go_sem]; exact h5
theorem old_one {w w1 : World} {o : Obj} (hb : Below (w.alloc o).heap.size (w.alloc o) w1) : Below w.heap.size w w1 :=
  ((Below.refl _ _).alloc (Nat.le_refl _) o).trans (hb.mono (by go_simp))
theorem old_two {w w1 : World} {o p : Obj} (hb : Below ((w.alloc o).alloc p).heap.size ((w.alloc o).alloc p) w1) : Below w.heap.size w w1 := old_one (old_one hb)
theorem old_three {w w1 : World} {o p q : Obj} (hb : Below (((w.alloc o).alloc p).alloc q).heap.size (((w.alloc o).alloc p).alloc q) w1) : Below w.heap.size w w1 := old_one (old_two hb)
theorem set_three {w w1 : World} {b : Nat} (h : Below w.heap.size w w1) (hb : w.heap.size ≤ b) (x y z : Value) : Below w.heap.size w (((w1.setCell ⟨b, 0, none⟩ x).setCell ⟨b, 1, none⟩ y).setCell ⟨b, 2, none⟩ z) :=
  ((h.setCell hb _).setCell hb _).setCell hb _
def alikeM (r c r2 c2 : Int) : Bool := decide (r = r2) && decide (c = c2)
/-- Are both the same, right or not? -/
def sameM (r c : Int) (xs : List Nat) (r2 c2 : Int) (ys : List Nat) : Bool := alikeM r c r2 c2 && sameL xs ys
end Go.Proofs.YtfhejejfeffdcaaDoor

namespace Go.Proofs.YtfhejejfeffdcaaDoor
open Go.RowKit

/-- A float is stored. -/
theorem vstoref (P : Program) (a : Addr) (k : FloatKind) (b : Nat) (m : Mode) (w : World) : (store a (.float k b) m).run P w = stored P w a (.float k b) m := run_store P w a _ m rfl
theorem opS : FourOp .sub := Or.inr (Or.inl rfl)
theorem opMu : FourOp .mul := Or.inr (Or.inr (Or.inl rfl))
/-- At each place. -/
def adO (xs ys : List Nat) (k : Nat) : Option Nat := opO .add (toO (xs.getD k 0)) (toO (ys.getD k 0))
def sbO (xs ys : List Nat) (k : Nat) : Option Nat := opO .sub (toO (xs.getD k 0)) (toO (ys.getD k 0))
def scO (t : Nat) (xs : List Nat) (k : Nat) : Option Nat := opO .mul (toO t) (toO (xs.getD k 0))
def axO (t : Nat) (xs ys : List Nat) (k : Nat) : Option Nat := opO .add (opO .mul (toO t) (toO (xs.getD k 0))) (toO (ys.getD k 0))
end Go.Proofs.YtfhejejfeffdcaaDoor

namespace Go.Proofs.YtfhejejfeffdcaaDoor
open Go.RowKit

theorem at_lt {R C i j : Nat} (hi : i < R) (hj : j < C) : i * C + j < R * C := by
  have h : (i + 1) * C ≤ R * C := Nat.mul_le_mul hi (Nat.le_refl _)
  rw [Nat.succ_mul] at h
  omega
theorem at_div {C i j : Nat} (hj : j < C) : (i * C + j) / C = i ∧ (i * C + j) % C = j := by
  have hC : 0 < C := by omega
  constructor
  · rw [Nat.add_comm, Nat.add_mul_div_right _ _ hC, Nat.div_eq_of_lt hj, Nat.zero_add]
  · rw [Nat.add_comm, Nat.add_mul_mod_self_right, Nat.mod_eq_of_lt hj]
/-- The entry at (i, j), as a number. -/
def enO (C : Nat) (xs : List Nat) (i j : Nat) : Option Nat := toO (xs.getD (i * C + j) 0)
/-- The sum in order of the first k products of row i and column j. -/
def muO (C D : Nat) (xs ys : List Nat) (i j : Nat) : Nat → Option Nat
  | 0 => some 0
  | k + 1 => opO .add (muO C D xs ys i j k) (opO .mul (enO C xs i k) (enO D ys k j))
def idO (i j : Nat) : Option Nat := if i = j then some 4607182418800017408 else some 0
end Go.Proofs.YtfhejejfeffdcaaDoor
