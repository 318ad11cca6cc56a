/- SpanSums: the walk. -/
import Derived.Test.YtbhkgjjogepgnaaDoorWA
import Derived.Laws.OwnMore
import Derived.Deep.AppendLies
import Derived.OwnWalk
import Derived.Test.YtbhkgjjogepgnaaDoorHB
import Derived.Test.YtbhkgjjogepgnaaDoorX1
import Derived.Maps.AppendAt
import Derived.Test.YtbhkgjjogepgnaaDoorWB
import Derived.Test.YtbhkgjjogepgnaaDoorZQ
import Derived.Test.YtbhkgjjogepgnaaDoorSy
import Derived.Test.YtbhkgjjogepgnaaDoorZb
import Derived.Deep.LoopGhost
import Derived.Test.YtbhkgjjogepgnaaDoorZj
namespace Go.Proofs.YtbhkgjjogepgnaaDoor
open Go.RowKit

theorem Tryd.infoS : (Tryd.prog.info? 24).map (fun i => (i.zero, i.size, i.bytes)) = some (some (.agg #[.float .f64 0, .float .f64 0]), 2, 16) := by kernel_rfl
theorem info_span {P : Program} {t : TypeId} {z : Option Value} {s b : Nat} (h : (P.info? t).map (fun i => (i.zero, i.size, i.bytes)) = some (z, s, b)) : ∃ i, P.info? t = some i ∧ i.zero = z ∧ i.size = s ∧ i.bytes = b := by
  cases e : P.info? t with
  | none => rw [e] at h; cases h
  | some i =>
    rw [e] at h
    simp only [Option.map_some, Option.some.injEq, Prod.mk.injEq] at h
    exact ⟨i, rfl, h.1, h.2.1, h.2.2⟩
theorem retInt {a b : Int} (h : a = b) : Ending.returned (.int .i64 a) = .returned (.int .i64 b) := by subst h; rfl
/-- Spans as cells. -/
def spc : List (Nat × Nat) → List Value
  | [] => []
  | p :: ps => .float .f64 p.1 :: .float .f64 p.2 :: spc ps
theorem spc_len : ∀ ps : List (Nat × Nat), (spc ps).length = ps.length * 2
  | [] => rfl
  | _ :: ps => by simp only [spc, List.length_cons, spc_len ps]; omega
theorem spc_app : ∀ ps qs : List (Nat × Nat), spc (ps ++ qs) = spc ps ++ spc qs
  | [], _ => rfl
  | p :: ps, qs => by simp only [List.cons_append, spc, spc_app ps qs]
theorem spc_one : ∀ (ps : List (Nat × Nat)) (u : Value), u ∈ spc ps → u.oneCell' = true
  | [], _, h => by cases h
  | p :: ps, u, h => by
    simp only [spc, List.mem_cons] at h
    rcases h with rfl | rfl | h
    · rfl
    · rfl
    · exact spc_one ps u h
theorem spc_at : ∀ (ps : List (Nat × Nat)) (j : Nat), j < ps.length → (spc ps)[j * 2]? = some (.float .f64 (ps.getD j (0, 0)).1) ∧ (spc ps)[j * 2 + 1]? = some (.float .f64 (ps.getD j (0, 0)).2)
  | [], _, h => by simp at h
  | p :: ps, 0, _ => by simp [spc]
  | p :: ps, j + 1, h => by
    have := spc_at ps j (by simpa using h)
    rw [show (j + 1) * 2 = j * 2 + 1 + 1 by omega]
    simpa [spc] using this
/-- The marks, as floats. -/
def mkS (i : Nat) : Nat := floatOfInt .f64 ((1000003 * 8 + i : Nat) : Int)
theorem mkS_ok : (List.range 12).all (fun i => Nat.blt (mkS i) 9218868437227405312) = true := by kernel_rfl
theorem mkS_lt {i : Nat} (h : i < 12) : mkS i < 9218868437227405312 := by
  have := List.all_eq_true.1 mkS_ok i (List.mem_range.2 h)
  simpa using this
def mkP (n : Nat) : List (Nat × Nat) := (List.range n).map fun i => (mkS i, 0)
theorem mkP_len (n : Nat) : (mkP n).length = n := by simp [mkP]
theorem mkP_succ (n : Nat) : mkP (n + 1) = mkP n ++ [(mkS n, 0)] := by simp [mkP, List.range_succ]
theorem mkP_at {n i : Nat} (h : i < n) : (mkP n).getD i (0, 0) = (mkS i, 0) := by simp [mkP, List.getD_eq_getElem?_getD, h]
theorem srown_base {w : World} {b c : Nat} {e : TypeId} {v : Value} {n : Nat} {xs : List Value} (h : w.ownsRow b e 2 v n xs) (hc : c ≤ b) : w.ownsRow c e 2 v n xs := by
  refine ⟨h.1, ?_⟩
  rcases h.2 with hn | ⟨g, cap, cur, h1, h2, h3⟩
  · exact Or.inl hn
  · exact Or.inr ⟨g, cap, cur, h1, Nat.le_trans hc h2, h3⟩
theorem srown_below {w w' : World} {b : Nat} {e : TypeId} {v : Value} {n : Nat} {xs : List Value} (h : w.ownsRow b e 2 v n xs) (hb : Below w.heap.size w w') : w'.ownsRow b e 2 v n xs := by
  refine ⟨h.1, ?_⟩
  rcases h.2 with hn | ⟨g, cap, cur, h1, h2, h3, h4⟩
  · exact Or.inl hn
  · have hl : g < w.heap.size := by
      rcases Nat.lt_or_ge g w.heap.size with q | q
      · exact q
      · rw [Array.getElem?_eq_none q] at h3; cases h3
    exact Or.inr ⟨g, cap, cur, h1, h2, by rw [hb.block g hl]; exact h3, h4⟩
/-- Spans that were lent. -/
def LentS (w : World) (g : Nat) (ps : List (Nat × Nat)) : Prop := w.ownsRow 0 24 2 (.slice (some ⟨g, 0, none⟩) (ps.length + 12) (ps.length + 12)) (ps.length + 12) (spc (ps ++ mkP 12))
theorem LentS.cell {w : World} {g : Nat} {ps : List (Nat × Nat)} (h : LentS w g ps) {j : Nat} (hj : j < ps.length + 12) : w.cell? ⟨g, j * 2, none⟩ = some (.float .f64 ((ps ++ mkP 12).getD j (0, 0)).1) ∧ w.cell? ⟨g, j * 2 + 1, none⟩ = some (.float .f64 ((ps ++ mkP 12).getD j (0, 0)).2) := by
  have e0 := World.ownsRow.cellAt h (j * 2) (by omega)
  have e1 := World.ownsRow.cellAt h (j * 2 + 1) (by omega)
  have hs := spc_at (ps ++ mkP 12) j (by rw [List.length_append, mkP_len]; exact hj)
  exact ⟨e0.trans hs.1, e1.trans hs.2⟩
theorem lentS_low {ps : List (Nat × Nat)} {k : Nat} (h : k < ps.length) : (ps ++ mkP 12).getD k (0, 0) = ps.getD k (0, 0) := by
  rw [List.getD_eq_getElem?_getD, List.getD_eq_getElem?_getD, List.getElem?_append_left h]
theorem lentS_high {ps : List (Nat × Nat)} {k : Nat} (h : ps.length ≤ k) (h2 : k < ps.length + 12) : (ps ++ mkP 12).getD k (0, 0) = (mkS (k - ps.length), 0) := by
  rw [List.getD_eq_getElem?_getD, List.getElem?_append_right h, ← List.getD_eq_getElem?_getD, mkP_at (by omega)]
theorem LentS.row {w : World} {g : Nat} {ps : List (Nat × Nat)} (h : LentS w g ps) : SRow w (some ⟨g, 0, none⟩) ps := by
  refine Or.inr ⟨g, 0, rfl, fun j hj => ?_⟩
  have := h.cell (j := j) (by omega)
  rw [lentS_low hj] at this
  simpa using this
theorem LentS.lt {w : World} {g : Nat} {ps : List (Nat × Nat)} (h : LentS w g ps) : g < w.heap.size := World.block_lt_of_cell? w _ (h.cell (j := 0) (by omega)).1
theorem LentS.below {w w' : World} {g : Nat} {ps : List (Nat × Nat)} (h : LentS w g ps) (hb : Below w.heap.size w w') : LentS w' g ps := by
  have hl := h.lt
  refine ⟨h.1, ?_⟩
  rcases h.2 with ⟨e, _⟩ | ⟨g', cap, cur, e, h1, h2, h3⟩
  · cases e
  · cases e
    exact Or.inr ⟨g, ps.length + 12, cur, rfl, h1, by rw [hb.block g hl]; exact h2, h3⟩
/-- As region_quietB, the operations behind a letter: where guards are not run, nothing is reckoned ahead of its time. -/
theorem region_quietO {P : Program} {id : Nat} {Q : Exit → Act → World → Prop} {a : Act} {w : World} {l : List Oper} (hm : P.follows .mixedOrders = true) (hB : Region.lexB .any l.toArray = true) (hT : TabW w)
    (h : ∀ O : Array Oper, (∀ j : Nat, O[j]? = l.toArray[j]?) → wpQuiet P O (fun w' => ∃ u : QOf w, w' = u.val) (fun a' => ∀ w', (∃ u : QOf w, w' = u.val) → Q .normal a' w') l a) : (Code.region id l.toArray true).wp P Q a w :=
  region_quietB hm hB hT (h _ (fun _ => rfl))
end Go.Proofs.YtbhkgjjogepgnaaDoor

namespace Go.Proofs.YtbhkgjjogepgnaaDoor
open Go.RowKit

def ssP : Nat := 5000
theorem add_comm5 {x y : Nat} (m : Int) (hx : Fn x) (hy : Fn y) (fx : finB x = false ∨ finB y = false) (h : finB x = true ∨ finB y = true ∨ sgn x = sgn y) : finB (addB m x y) = false := by
  have o1 := addS_ok hx.1 hy.1 hx.2 hy.2 h
  cases f : finB x
  · rw [add_inf m hx hy f o1]; exact f
  · have g : finB y = false := by rcases fx with k | k; · rw [f] at k; cases k
                                  · exact k
    have e : addB m x y = (floatBits .add .f64 x y).getD 0 := by unfold addB; rw [g]; simp
    have r : rung y = 9218868437227405312 := by
      have := (fn_inf hy g).2.1
      have w := word_rung (sgn y) (show 9218868437227405312 < 9223372036854775808 by omega)
      rw [this, w.1]
    rw [e, add_inf_r hy.1 r hx.1 f]
    exact g
/-- What lies in two right spans: their exact sum lies in the spans' sum. -/
theorem ho_addP {o p : Nat × Nat} {X Y : Int} (ho : RtP o) (hp : RtP p) (hX : HoX o X) (hY : HoX p Y) : HoX (adP o p) (X + Y) := by
  obtain ⟨o1, o2, o3⟩ := ho.pl
  obtain ⟨p1, p2, p3⟩ := hp.pl
  have F := ho.fn
  have G := hp.fn
  constructor
  · intro f
    have f : finB (addB 1 o.1 p.1) = true := f
    show vI (addB 1 o.1 p.1) * 2 ^ twP ≤ X + Y
    have s1 : finB o.1 = true ∨ sgn o.1 = true := by
      cases k : finB o.1
      · exact Or.inr (lo_inf F.1 o2 k).1
      · exact Or.inl rfl
    have s2 : finB p.1 = true ∨ sgn p.1 = true := by
      cases k : finB p.1
      · exact Or.inr (lo_inf G.1 p2 k).1
      · exact Or.inl rfl
    have ok : finB o.1 = true ∨ finB p.1 = true ∨ sgn o.1 = sgn p.1 := by
      rcases s1 with k | k <;> rcases s2 with j | j <;> simp [k, j]
    cases k : finB o.1
    · rw [add_comm5 1 F.1 G.1 (Or.inl k) ok] at f; cases f
    · cases j : finB p.1
      · rw [add_comm5 1 F.1 G.1 (Or.inr j) ok] at f; cases f
      · have e := (add_exact F.1 G.1 k j).1 f
        have e1 := hX.1 k
        have e2 := hY.1 j
        rw [Int.add_mul] at e
        simp only at e
        omega
  · intro f
    have f : finB (addB 2 o.2 p.2) = true := f
    show X + Y ≤ vI (addB 2 o.2 p.2) * 2 ^ twP
    have s1 : finB o.2 = true ∨ sgn o.2 = false := by
      cases k : finB o.2
      · exact Or.inr (hi_inf F.2 o3 k).1
      · exact Or.inl rfl
    have s2 : finB p.2 = true ∨ sgn p.2 = false := by
      cases k : finB p.2
      · exact Or.inr (hi_inf G.2 p3 k).1
      · exact Or.inl rfl
    have ok : finB o.2 = true ∨ finB p.2 = true ∨ sgn o.2 = sgn p.2 := by
      rcases s1 with k | k <;> rcases s2 with j | j <;> simp [k, j]
    cases k : finB o.2
    · rw [add_comm5 2 F.2 G.2 (Or.inl k) ok] at f; cases f
    · cases j : finB p.2
      · rw [add_comm5 2 F.2 G.2 (Or.inr j) ok] at f; cases f
      · have e := (add_exact F.2 G.2 k j).2 f
        have e1 := hX.2 k
        have e2 := hY.2 j
        rw [Int.add_mul] at e
        simp only at e
        omega
theorem ho_of {x : Nat} {a : Nat × Nat} (h : Of1 x a) : HoX a (vI x * 2 ^ twP) :=
  ⟨fun _ => Int.mul_le_mul_of_nonneg_right (vI_le_of h.2.2.1) (Int.le_of_lt pwp5), fun _ => Int.mul_le_mul_of_nonneg_right (vI_le_of h.2.2.2) (Int.le_of_lt pwp5)⟩
theorem dtP_app (ps qs : List (Nat × Nat)) (a b : Nat × Nat) : ∀ k, k ≤ ps.length → k ≤ qs.length → dtP (ps ++ [a]) (qs ++ [b]) k = dtP ps qs k
  | 0, _, _ => rfl
  | k + 1, h, g => by
    show adP (dtP (ps ++ [a]) (qs ++ [b]) k) (muP ((ps ++ [a]).getD k (0, 0)) ((qs ++ [b]).getD k (0, 0))) = adP (dtP ps qs k) (muP (ps.getD k (0, 0)) (qs.getD k (0, 0)))
    rw [dtP_app ps qs a b k (by omega) (by omega)]
    have e1 : (ps ++ [a]).getD k (0, 0) = ps.getD k (0, 0) := by simp only [List.getD_eq_getElem?_getD]; rw [List.getElem?_append_left (by omega)]
    have e2 : (qs ++ [b]).getD k (0, 0) = qs.getD k (0, 0) := by simp only [List.getD_eq_getElem?_getD]; rw [List.getElem?_append_left (by omega)]
    rw [e1, e2]
theorem dtP_snoc {ps qs : List (Nat × Nat)} (a b : Nat × Nat) (h : ps.length = qs.length) : dtP (ps ++ [a]) (qs ++ [b]) (ps ++ [a]).length = adP (dtP ps qs ps.length) (muP a b) := by
  rw [List.length_append, List.length_singleton]
  show adP (dtP (ps ++ [a]) (qs ++ [b]) ps.length) (muP ((ps ++ [a]).getD ps.length (0, 0)) ((qs ++ [b]).getD ps.length (0, 0))) = _
  rw [dtP_app ps qs a b _ (Nat.le_refl _) (by omega)]
  have e1 : (ps ++ [a]).getD ps.length (0, 0) = a := by simp
  have e2 : (qs ++ [b]).getD ps.length (0, 0) = b := by rw [h]; simp
  rw [e1, e2]
theorem FS_snoc {ps : List (Nat × Nat)} {a : Nat × Nat} (h : FS ps) (g : RtP a) : FS (ps ++ [a]) := fun p hp => by
  rcases List.mem_append.1 hp with k | k
  · exact h p k
  · rw [List.mem_singleton.1 k]; exact ⟨g.1, g.2.1⟩
/-- What holds of the lists kept so far, of the exact sum and the exact sum of products. -/
structure SsI (ps qs : List (Nat × Nat)) (X Y : Int) (i : Nat) : Prop where
  len : ps.length = qs.length
  le : ps.length ≤ i
  fp : FS ps
  fq : FS qs
  rp : rtL ps = true
  rq : rtL qs = true
  hx : HoX (smP ps) X
  hy : HoX (dtP ps qs ps.length) Y
  bx : X.natAbs ≤ i * 2 ^ ssP
  bd : Y.natAbs ≤ i * 2 ^ ssP
theorem SsI.start : SsI [] [] 0 0 0 := ⟨rfl, Nat.le_refl _, fun _ h => (by cases h), fun _ h => (by cases h), rfl, rfl, ho_zero (p := (0, 0)) (by decide) (by decide), ho_zero (p := (0, 0)) (by decide) (by decide), by simp, by simp⟩
theorem SsI.skip {ps qs : List (Nat × Nat)} {X Y : Int} {i : Nat} (h : SsI ps qs X Y i) : SsI ps qs X Y (i + 1) :=
  ⟨h.len, by have := h.le; omega, h.fp, h.fq, h.rp, h.rq, h.hx, h.hy, Nat.le_trans h.bx (Nat.mul_le_mul_right _ (by omega)), Nat.le_trans h.bd (Nat.mul_le_mul_right _ (by omega))⟩
theorem add_bd {X Z : Int} {i n : Nat} (h : X.natAbs ≤ i * n) (g : Z.natAbs ≤ n) : (X + Z).natAbs ≤ (i + 1) * n := by
  rw [Nat.succ_mul]
  omega
theorem num_bd {x y : Nat} (fx : finB x = true) (fy : finB y = true) : (vI x * 2 ^ twP).natAbs ≤ 2 ^ ssP ∧ (vI x * vI y).natAbs ≤ 2 ^ ssP := by
  obtain ⟨V, hV, v1⟩ := vI_bd fx
  obtain ⟨V', hV', v2⟩ := vI_bd fy
  have k : twP ≤ 2000 := by unfold twP; omega
  have k5 : ssP = 5000 := rfl
  constructor
  · rw [Int.natAbs_mul, pw_abs]
    exact Nat.le_trans (Nat.mul_le_mul_right _ (Nat.le_of_lt v1)) (by rw [← Nat.pow_add]; exact Nat.pow_le_pow_right (by omega) (by omega))
  · rw [Int.natAbs_mul]
    exact Nat.le_trans (Nat.mul_le_mul (Nat.le_of_lt v1) (Nat.le_of_lt v2)) (by rw [← Nat.pow_add]; exact Nat.pow_le_pow_right (by omega) (by omega))
theorem SsI.keep {ps qs : List (Nat × Nat)} {X Y : Int} {i : Nat} (h : SsI ps qs X Y i) {a b : Nat × Nat} {x y : Nat} (ha : RtP a) (hb : RtP b) (hx : Of1 x a) (hy : Of1 y b) : SsI (ps ++ [a]) (qs ++ [b]) (X + vI x * 2 ^ twP) (Y + vI x * vI y) (i + 1) := by
  obtain ⟨n1, n2⟩ := num_bd hx.2.1 hy.2.1
  have sr := smP_rt h.fp h.rp ps.length (Nat.le_refl _)
  rw [List.take_length] at sr
  have dr := dtP_rt h.fp h.rp h.fq h.rq ps.length (Nat.le_refl _) (by rw [h.len]; exact Nat.le_refl _)
  refine ⟨by simp [h.len], by have := h.le; simp; omega, FS_snoc h.fp ha, FS_snoc h.fq hb, by rw [rtL_snoc, h.rp, ha.2.2]; rfl, by rw [rtL_snoc, h.rq, hb.2.2]; rfl, ?_, ?_, add_bd h.bx n1, add_bd h.bd n2⟩
  · rw [smP_snoc]; exact ho_addP sr ha h.hx (ho_of hx)
  · rw [dtP_snoc a b h.len]; exact ho_addP dr (muP_rt ha hb) h.hy (hold_mul ha hb hx hy)
theorem SsI.bl {ps qs : List (Nat × Nat)} {X Y : Int} {i : Nat} (h : SsI ps qs X Y i) (hi : i ≤ 40) : bl X.natAbs ≤ 16384 ∧ bl Y.natAbs ≤ 16384 := by
  have k : i * 2 ^ ssP < 2 ^ (6 + ssP) := by
    have e : (2 : Nat) ^ (6 + ssP) = 64 * 2 ^ ssP := by rw [Nat.pow_add]
    rw [e]
    exact Nat.mul_lt_mul_of_pos_right (by omega) (Nat.two_pow_pos _)
  have k5 : ssP = 5000 := rfl
  exact ⟨bl_sm (n := 6 + ssP) (Nat.lt_of_le_of_lt h.bx k) (by omega), bl_sm (n := 6 + ssP) (Nat.lt_of_le_of_lt h.bd k) (by omega)⟩
/-- The answers of both sums. -/
theorem SsI.said {ps qs : List (Nat × Nat)} {X Y : Int} {i : Nat} (h : SsI ps qs X Y i) : smA ps = (smP ps, 0) ∧ dtA ps qs = (dtP ps qs ps.length, 0) ∧ RtP (smP ps) ∧ RtP (dtP ps qs ps.length) := by
  have sr := smP_rt h.fp h.rp ps.length (Nat.le_refl _)
  rw [List.take_length] at sr
  have dr := dtP_rt h.fp h.rp h.fq h.rq ps.length (Nat.le_refl _) (by rw [h.len]; exact Nat.le_refl _)
  refine ⟨by unfold smA; rw [h.rp]; rfl, by unfold dtA; rw [if_pos h.len, h.rp, h.rq]; rfl, sr, dr⟩
end Go.Proofs.YtbhkgjjogepgnaaDoor

namespace Go.Proofs.YtbhkgjjogepgnaaDoor
open Go.RowKit

/-- Lists that grow, each in memory of its own. -/
structure OwP (w wr : World) (v : Nat → Value) (xs : Nat → List (Nat × Nat)) : Prop where
  own : ∀ i, wr.ownsRow w.heap.size 24 2 (v i) (xs i).length (spc (xs i))
  apart : ∀ i j a, i ≠ j → (v i).ownBlock = some a → (v j).ownBlock = some a → False
  below : Below w.heap.size w wr
theorem OwP.start {w wr : World} (h : Below w.heap.size w wr) : OwP w wr (fun _ => .slice none 0 0) (fun _ => []) :=
  ⟨fun _ => World.ownsRow_nil _ _ _ _, fun i j a _ p _ => by simp [Value.ownBlock] at p, h⟩
theorem sown_later {w wr w1 : World} {v : Value} {n : Nat} {xs : List Value} {e : TypeId} (q : wr.ownsRow w.heap.size e 2 v n xs) (hb : Below wr.heap.size wr w1) : w1.ownsRow w.heap.size e 2 v n xs := by
  obtain ⟨q1, q2⟩ := q
  refine ⟨q1, ?_⟩
  rcases q2 with q2 | ⟨g, cap, cur, e, b1, b2, b3⟩
  · exact Or.inl q2
  · refine Or.inr ⟨g, cap, cur, e, b1, ?_, b3⟩
    have hlt : g < wr.heap.size := by
      rcases Nat.lt_or_ge g wr.heap.size with c | c
      · exact c
      · rw [Array.getElem?_eq_none c] at b2; cases b2
    rw [hb.block g hlt]; exact b2
theorem OwP.later {w wr w1 : World} {v : Nat → Value} {xs : Nat → List (Nat × Nat)} (h : OwP w wr v xs) (hb : Below wr.heap.size wr w1) : OwP w w1 v xs :=
  ⟨fun i => sown_later (h.own i) hb, h.apart, h.below.trans (hb.mono h.below.size)⟩
/-- A list put behind one of them. -/
theorem OwP.next {w wr w1 : World} {v : Nat → Value} {xs : Nat → List (Nat × Nat)} (h : OwP w wr v xs) (i : Nat) {v' : Value} (ys : List (Nat × Nat)) {m : Nat} (hm : ys.length = m) (hown : w1.ownsRow w.heap.size 24 2 v' ((xs i).length + m) (spc (xs i) ++ spc ys)) (hg : wr.grownBy w1 (v i).ownBlock) (ha : v'.ownBlock = (v i).ownBlock ∨ v'.ownBlock = some wr.heap.size) :
    OwP w w1 (fun j => if j = i then v' else v j) (fun j => if j = i then xs i ++ ys else xs j) := by
  subst hm
  have hb : Below w.heap.size wr w1 := (Below.refl _ wr).grown hg h.below.size (fun k hk => ((h.own i).lt k hk).1)
  have hne : ∀ j, j ≠ i → (v j).ownBlock = none ∨ (v j).ownBlock ≠ (v i).ownBlock := fun j hj => by
    cases c : (v j).ownBlock with
    | none => exact Or.inl rfl
    | some a => exact Or.inr fun e => h.apart j i a hj c e.symm
  have hfar : ∀ j a, j ≠ i → v'.ownBlock = some a → (v j).ownBlock = some a → False := fun j a hj p q => by
    rcases ha with ha | ha
    · exact h.apart j i a hj q (by rw [← ha]; exact p)
    · have h1 := ((h.own j).lt a q).2
      rw [ha] at p
      have := Option.some.inj p
      omega
  refine ⟨fun j => ?_, fun j k a hjk p q => ?_, h.below.trans hb⟩
  · by_cases c : j = i
    · subst c
      simp only [if_true]
      rw [List.length_append, spc_app]
      exact hown
    · simp only [if_neg c]
      exact (h.own j).kept hg (hne j c)
  · by_cases c : j = i
    · subst c
      simp only [if_true] at p
      rw [if_neg (Ne.symm hjk)] at q
      exact hfar k a (Ne.symm hjk) p q
    · rw [if_neg c] at p
      by_cases d : k = i
      · subst d
        simp only [if_true] at q
        exact hfar j a c q p
      · rw [if_neg d] at q
        exact h.apart j k a hjk p q
theorem sowned_grow {w : World} {base : Nat} {t : TypeId} {v : Value} {ps : List (Nat × Nat)} (h : w.ownsRow base t 2 v ps.length (spc ps)) : ∃ ao cap, v = .slice ao ps.length cap ∧ SRow w ao ps ∧ ps.length ≤ cap := by
  obtain ⟨h1, h2⟩ := h
  rcases h2 with ⟨rfl, hn⟩ | ⟨g, cap, cur, rfl, hg, hh, hc⟩
  · exact ⟨none, 0, by rw [hn], Or.inl hn, by omega⟩
  · refine ⟨some ⟨g, 0, none⟩, cap, rfl, Or.inr ⟨g, 0, rfl, fun j hj => ?_⟩, hc.1⟩
    have own : w.ownsRow base t 2 (.slice (some ⟨g, 0, none⟩) ps.length cap) ps.length (spc ps) := ⟨h1, Or.inr ⟨g, cap, cur, rfl, hg, hh, hc⟩⟩
    have e0 := own.cellAt (j * 2) (by omega)
    have e1 := own.cellAt (j * 2 + 1) (by omega)
    have hs := spc_at ps j hj
    rw [Nat.zero_add]
    exact ⟨e0.trans hs.1, e1.trans hs.2⟩
theorem OwP.row {w wr : World} {v : Nat → Value} {xs : Nat → List (Nat × Nat)} (h : OwP w wr v xs) (i : Nat) : ∃ bo bc, v i = .slice bo (xs i).length bc ∧ SRow wr bo (xs i) := by
  obtain ⟨bo, bc, q1, q2, _⟩ := sowned_grow (h.own i)
  exact ⟨bo, bc, q1, q2⟩
end Go.Proofs.YtbhkgjjogepgnaaDoor

namespace Go.Proofs.YtbhkgjjogepgnaaDoor
open Go.RowKit

theorem sbal (w : World) (o : Obj) : Below w.heap.size w (w.alloc o) := (Below.refl _ w).alloc (Nat.le_refl _) o
/-- append of one span to one of the lists, as an equation. -/
theorem app_span {w wr : World} {v : Nat → Value} {xs : Nat → List (Nat × Nat)} (h : OwP w wr v xs) (i : Nat) (p : Nat × Nat) (hn : (xs i).length ≤ 1000) : ∃ v' w1 v2 xs2,
    ((Builtin.append_ #[34, 34] 34 #[v i, .slice (some ⟨wr.heap.size, 0, none⟩) 1 1]).run Tryd.prog (wr.alloc (.cells #[.float .f64 p.1, .float .f64 p.2] 24)) = .ok v' w1) ∧
    (wr.alloc (.cells #[.float .f64 p.1, .float .f64 p.2] 24)).grownBy w1 (v i).ownBlock ∧ OwP w w1 v2 xs2 ∧ v2 i = v' ∧ (∀ j, j ≠ i → v2 j = v j) ∧ xs2 i = xs i ++ [p] ∧ (∀ j, j ≠ i → xs2 j = xs j) ∧ (v'.ownBlock = (v i).ownBlock ∨ v'.ownBlock = some (wr.alloc (.cells #[.float .f64 p.1, .float .f64 p.2] 24)).heap.size) := by
  obtain ⟨i0, hi, hz0, hz1, hz2⟩ := info_span Tryd.infoS
  have hall := run_append_own_at (P := Tryd.prog) (wr.alloc (.cells #[.float .f64 p.1, .float .f64 p.2] 24)) w.heap.size 34 34 24 i0 (.agg #[.float .f64 0, .float .f64 0]) 2 16 Tryd.underlying34 hi hz0 hz1 hz2 rfl (by decide) (v i) (xs i).length (spc (xs i)) ((h.own i).alloc _) ⟨wr.heap.size, 0, none⟩ 1 1 [.float .f64 p.1, .float .f64 p.2] rfl (World.news_of_block (cs := #[.float .f64 p.1, .float .f64 p.2]) (t := 24) (fr := (0, 0)) (heap_alloc_new _ _)) (by simp [Value.oneCell']) (by unfold maxLen; omega) (by omega) (by have := h.below.size; simp; omega)
  obtain ⟨v', w1, hr, h2, h3, _, h5⟩ := hall
  exact ⟨v', w1, _, _, hr, h3, (h.later (sbal wr _)).next i [p] rfl h2 h3 h5, by simp, fun j hj => by simp [hj], by simp, fun j hj => by simp [hj], h5⟩
theorem append5_eq {ops : Array Oper} {rest : List Oper} {o : Oper} {a : Act} {Q : Exit → Act → World → Prop} {w w' : World} {t ty : TypeId} {v u v' : Value} (hr : (Builtin.append_ #[t, t] ty #[v, u]).run Tryd.prog w = .ok v' w') (hgd : o.guard = none) (s x : Operand)
    (ho : o.op = .call { callee := .builtin .append, args := #[s, x], argTypes := #[t, t] }) (hty : o.type = ty) (hs : a.eval s = v) (hx : a.eval x = u) (h : wpList Tryd.prog ops Q rest (a.put o.dst v') w') : wpList Tryd.prog ops Q (o :: rest) a w := by
  subst hty
  refine wpList_plain hgd fun K hK => ?_
  unfold Oper.wp execOp
  simp only [ho, resolve, invoke, builtin, Sem.run_bind, Sem.run_pure, Result.andThen_ok, List.map_toArray, List.map_cons, List.map_nil, hs, hx, hr]
  exact hK _ _ h
/-- Where the lists' own blocks lie: not from N up to M. -/
def Lies (v : Nat → Value) (N M : Nat) : Prop := ∀ i a, (v i).ownBlock = some a → a < N ∨ M ≤ a
def Far (v : Nat → Value) (g : Nat) : Prop := ∀ i a, (v i).ownBlock = some a → a ≠ g
def FarD (v : Nat → Value) (ao : Option Addr) (D : Dy) : Prop := ∀ b off, ao = some ⟨b, off, none⟩ → D.mag.length ≠ 0 → Far v b
theorem Lies.far {v : Nat → Value} {N M g : Nat} (h : Lies v N M) (h1 : N ≤ g) (h2 : g < M) : Far v g := fun i a e => by have := h i a e; omega
theorem OwP.lies {w wr : World} {v : Nat → Value} {xs : Nat → List (Nat × Nat)} (h : OwP w wr v xs) {N M : Nat} (hN : wr.heap.size ≤ N) : Lies v N M := fun i a e => Or.inl (Nat.lt_of_lt_of_le ((h.own i).lt a e).2 hN)
theorem Lies.next {v v2 : Nat → Value} {N M S : Nat} (h : Lies v N M) {i : Nat} (h1 : ∀ j, j ≠ i → v2 j = v j) (h2 : (v2 i).ownBlock = (v i).ownBlock ∨ (v2 i).ownBlock = some S) (hS : M ≤ S) : Lies v2 N M := fun j a e => by
  by_cases q : j = i
  · subst q
    rcases h2 with k | k
    · exact h j a (by rw [← k]; exact e)
    · rw [k] at e; cases e; exact Or.inr hS
  · rw [h1 j q] at e; exact h j a e
theorem Far.next {v v2 : Nat → Value} {g S : Nat} (h : Far v g) {i : Nat} (h1 : ∀ j, j ≠ i → v2 j = v j) (h2 : (v2 i).ownBlock = (v i).ownBlock ∨ (v2 i).ownBlock = some S) (hS : g < S) : Far v2 g := fun j a e => by
  by_cases q : j = i
  · subst q
    rcases h2 with k | k
    · exact h j a (by rw [← k]; exact e)
    · rw [k] at e; cases e; omega
  · rw [h1 j q] at e; exact h j a e
theorem LRow.app {w w1 : World} {ob : Option Nat} (hg : w.grownBy w1 ob) {ao : Option Addr} {m : List Nat} (h : LRow w ao m) (hn : ∀ b off, ao = some ⟨b, off, none⟩ → m.length ≠ 0 → ∀ a, ob = some a → a ≠ b) : LRow w1 ao m := by
  rcases h with h | ⟨b, off, e, hc⟩
  · exact Or.inl h
  · rcases Nat.eq_zero_or_pos m.length with q | q
    · exact Or.inl q
    · exact Or.inr ⟨b, off, e, fun j hj => hg.cell (hc j hj) (fun k => hn b off e (by omega) b k.symm rfl)⟩
theorem Hd.app {w w1 : World} {ob : Option Nat} (hg : w.grownBy w1 ob) {p : Nat} {d : Dy} {ao : Option Addr} {cap : Nat} (h : Hd w p d ao cap) (hp : ∀ a, ob = some a → a ≠ p) (hn : ∀ b off, ao = some ⟨b, off, none⟩ → d.mag.length ≠ 0 → ∀ a, ob = some a → a ≠ b) : Hd w1 p d ao cap :=
  ⟨hg.cell h.c0 (fun k => hp p k.symm rfl), hg.cell h.c1 (fun k => hp p k.symm rfl), hg.cell h.c2 (fun k => hp p k.symm rfl), LRow.app hg h.row hn⟩
theorem Fzr.app {w w1 : World} {ob : Option Nat} (hg : w.grownBy w1 ob) {p : Nat} (h : Fzr w p) (hlt : p < w.heap.size) (hp : ∀ a, ob = some a → a ≠ p) : Fzr w1 p := by
  have e : ∀ o, w1.frozen? ⟨p, o, none⟩ = w.frozen? ⟨p, o, none⟩ := fun o => by
    have := hg.block p hlt (fun k => hp p k.symm rfl)
    unfold World.frozen?
    simp only [this]
  exact ⟨(e 0).trans h.1, (e 1).trans h.2.1, (e 2).trans h.2.2⟩
theorem setCell_far (w : World) (a : Addr) (u : Value) {g : Nat} (h : a.block ≠ g) : (w.setCell a u).heap[g]? = w.heap[g]? := by
  unfold World.setCell
  simp only [Array.getElem?_modify, if_neg h]
theorem put3c {w : World} {p : Nat} {x0 x1 x2 : Value} {a : Option Addr} {c : Nat} {E : Dy} (h0 : w.cell? ⟨p, 0, none⟩ = some x0) (h1 : w.cell? ⟨p, 1, none⟩ = some x1) (h2 : w.cell? ⟨p, 2, none⟩ = some x2) (hr : LRow w a E.mag) (hf : ∀ b off, a = some ⟨b, off, none⟩ → E.mag.length ≠ 0 → b ≠ p) :
    Hd (((w.setCell ⟨p, 0, none⟩ (.bool E.neg)).setCell ⟨p, 1, none⟩ (.slice a E.mag.length c)).setCell ⟨p, 2, none⟩ (.int .i64 E.exp)) p E a c := by
  have s0 : (w.setCell ⟨p, 0, none⟩ (.bool E.neg)).cell? ⟨p, 0, none⟩ = some (.bool E.neg) := World.cell?_setCell_same w _ _ h0
  have s1 : (w.setCell ⟨p, 0, none⟩ (.bool E.neg)).cell? ⟨p, 1, none⟩ = some x1 := (World.cell?_setCell_other w _ _ _ (by simp)).trans h1
  have s2 : (w.setCell ⟨p, 0, none⟩ (.bool E.neg)).cell? ⟨p, 2, none⟩ = some x2 := (World.cell?_setCell_other w _ _ _ (by simp)).trans h2
  have t0 := (World.cell?_setCell_other _ ⟨p, 1, none⟩ ⟨p, 0, none⟩ (.slice a E.mag.length c) (by simp)).trans s0
  have t1 := World.cell?_setCell_same _ _ (.slice a E.mag.length c) s1
  have t2 := (World.cell?_setCell_other _ ⟨p, 1, none⟩ ⟨p, 2, none⟩ (.slice a E.mag.length c) (by simp)).trans s2
  exact ⟨(World.cell?_setCell_other _ _ _ _ (by simp)).trans t0, (World.cell?_setCell_other _ _ _ _ (by simp)).trans t1, World.cell?_setCell_same _ _ _ t2, ((hr.setCell _ hf).setCell _ hf).setCell _ hf⟩
theorem cell_oth3 {w : World} {p q : Nat} (hne : p ≠ q) (v0 v1 v2 : Value) (i : Nat) : (((w.setCell ⟨q, 0, none⟩ v0).setCell ⟨q, 1, none⟩ v1).setCell ⟨q, 2, none⟩ v2).cell? ⟨p, i, none⟩ = w.cell? ⟨p, i, none⟩ := by
  have hadd : ∀ i j : Nat, (⟨q, j, none⟩ : Addr) ≠ ⟨p, i, none⟩ := fun i j e => hne (by injection e with e1; exact e1.symm)
  rw [World.cell?_setCell_other _ _ _ _ (hadd i 2), World.cell?_setCell_other _ _ _ _ (hadd i 1), World.cell?_setCell_other _ _ _ _ (hadd i 0)]
theorem OwP.set {w wr : World} {v : Nat → Value} {xs : Nat → List (Nat × Nat)} (h : OwP w wr v xs) {a : Addr} (hf : Far v a.block) (hl : w.heap.size ≤ a.block) (u : Value) : OwP w (wr.setCell a u) v xs := by
  refine ⟨fun i => ?_, h.apart, h.below.setCell hl _⟩
  obtain ⟨q1, q2⟩ := h.own i
  refine ⟨q1, ?_⟩
  rcases q2 with q2 | ⟨g, cap, cur, e, b1, b2, b3⟩
  · exact Or.inl q2
  · refine Or.inr ⟨g, cap, cur, e, b1, ?_, b3⟩
    have hg : a.block ≠ g := fun k => hf i g (by rw [e]; simp [Value.ownBlock]) k.symm
    rw [← b2]
    exact setCell_far wr a u hg
theorem OwP.set3 {w wr : World} {v : Nat → Value} {xs : Nat → List (Nat × Nat)} (h : OwP w wr v xs) {g : Nat} (hf : Far v g) (hl : w.heap.size ≤ g) (u0 u1 u2 : Value) : OwP w (((wr.setCell ⟨g, 0, none⟩ u0).setCell ⟨g, 1, none⟩ u1).setCell ⟨g, 2, none⟩ u2) v xs :=
  ((h.set (a := ⟨g, 0, none⟩) hf hl u0).set (a := ⟨g, 1, none⟩) hf hl u1).set (a := ⟨g, 2, none⟩) hf hl u2
def Cl3 (w : World) (p : Nat) (x0 x1 x2 : Value) : Prop := w.cell? ⟨p, 0, none⟩ = some x0 ∧ w.cell? ⟨p, 1, none⟩ = some x1 ∧ w.cell? ⟨p, 2, none⟩ = some x2
theorem Cl3.below {w w1 : World} {p : Nat} {x0 x1 x2 : Value} (h : Cl3 w p x0 x1 x2) (hb : Below w.heap.size w w1) : Cl3 w1 p x0 x1 x2 := ⟨(hb.cell (World.block_lt_of_cell? _ _ h.1)).trans h.1, (hb.cell (World.block_lt_of_cell? _ _ h.2.1)).trans h.2.1, (hb.cell (World.block_lt_of_cell? _ _ h.2.2)).trans h.2.2⟩
theorem Cl3.app {w w1 : World} {ob : Option Nat} (hg : w.grownBy w1 ob) {p : Nat} {x0 x1 x2 : Value} (h : Cl3 w p x0 x1 x2) (hp : ∀ a, ob = some a → a ≠ p) : Cl3 w1 p x0 x1 x2 :=
  ⟨hg.cell h.1 (fun k => hp p k.symm rfl), hg.cell h.2.1 (fun k => hp p k.symm rfl), hg.cell h.2.2 (fun k => hp p k.symm rfl)⟩
/-- Two boxes, each filled with a dyad. -/
theorem fill_two {w : World} {p q : Nat} {x0 x1 x2 y0 y1 y2 : Value} {a b : Option Addr} {c d : Nat} {S T : Dy} (hp : Cl3 w p x0 x1 x2) (hq : Cl3 w q y0 y1 y2) (hne : p ≠ q) (fp : Fzr w p) (fq : Fzr w q) (rS : LRow w a S.mag) (rT : LRow w b T.mag)
    (na : ∀ k off, a = some ⟨k, off, none⟩ → S.mag.length ≠ 0 → k ≠ p ∧ k ≠ q) (nb : ∀ k off, b = some ⟨k, off, none⟩ → T.mag.length ≠ 0 → k ≠ p ∧ k ≠ q) :
    let w1 := ((w.setCell ⟨p, 0, none⟩ (.bool S.neg)).setCell ⟨p, 1, none⟩ (.slice a S.mag.length c)).setCell ⟨p, 2, none⟩ (.int .i64 S.exp)
    let w2 := ((w1.setCell ⟨q, 0, none⟩ (.bool T.neg)).setCell ⟨q, 1, none⟩ (.slice b T.mag.length d)).setCell ⟨q, 2, none⟩ (.int .i64 T.exp)
    Hd w2 p S a c ∧ Hd w2 q T b d ∧ Fzr w2 p ∧ Fzr w2 q := by
  intro w1 w2
  have n1 : ∀ k off, a = some ⟨k, off, none⟩ → S.mag.length ≠ 0 → k ≠ p := fun k off e h => (na k off e h).1
  have n2 : ∀ k off, a = some ⟨k, off, none⟩ → S.mag.length ≠ 0 → k ≠ q := fun k off e h => (na k off e h).2
  have n3 : ∀ k off, b = some ⟨k, off, none⟩ → T.mag.length ≠ 0 → k ≠ p := fun k off e h => (nb k off e h).1
  have n4 : ∀ k off, b = some ⟨k, off, none⟩ → T.mag.length ≠ 0 → k ≠ q := fun k off e h => (nb k off e h).2
  have H1 : Hd w1 p S a c := put3c hp.1 hp.2.1 hp.2.2 rS n1
  have r1 : LRow w1 b T.mag := ((rT.setCell (p := ⟨p, 0, none⟩) _ n3).setCell (p := ⟨p, 1, none⟩) _ n3).setCell (p := ⟨p, 2, none⟩) _ n3
  have c0 := (cell_oth3 (w := w) (Ne.symm hne) (.bool S.neg) (.slice a S.mag.length c) (.int .i64 S.exp) 0).trans hq.1
  have c1 := (cell_oth3 (w := w) (Ne.symm hne) (.bool S.neg) (.slice a S.mag.length c) (.int .i64 S.exp) 1).trans hq.2.1
  have c2 := (cell_oth3 (w := w) (Ne.symm hne) (.bool S.neg) (.slice a S.mag.length c) (.int .i64 S.exp) 2).trans hq.2.2
  have H2 : Hd w2 q T b d := put3c c0 c1 c2 r1 n4
  have r2 : LRow w2 a S.mag := ((H1.row.setCell (p := ⟨q, 0, none⟩) _ n2).setCell (p := ⟨q, 1, none⟩) _ n2).setCell (p := ⟨q, 2, none⟩) _ n2
  exact ⟨H1.oth hne _ _ _ r2, H2, (fp.set p _ _ _).set q _ _ _, (fq.set p _ _ _).set q _ _ _⟩
end Go.Proofs.YtbhkgjjogepgnaaDoor

namespace Go.Proofs.YtbhkgjjogepgnaaDoor
open Go.RowKit

structure RgE (ops : Array Oper) (W : World) (n : Nat) (ia is : Nat → Nat) (P : Nat → Dy) (K : Nat → Option (Dy × Bool)) (val : Nat → Value) (L : Array Bool) (w : World) (v : Nat → Value) (g : Nat → Nat) : Prop where
  m : Below W.heap.size W w
  d : ∀ j, K j = none → (∀ b, b < n → j ≠ ia b) → On L j → v j = val j
  r : ∀ j D t, K j = some (D, t) → On L j → ∃ ao cap, v j = dyU D ao cap t ∧ LRow w ao D.mag ∧ Frs W.heap.size ao ∧ (∀ b, b < n → On L (ia b) → NoIn ao D (g b))
  p : ∀ b, b < n → On L (ia b) → v (ia b) = .pointer (some ⟨g b, 0, none⟩) ∧ W.heap.size ≤ g b ∧ g b < w.heap.size
  ne : ∀ b c, b < n → c < n → b ≠ c → On L (ia b) → On L (ia c) → g b ≠ g c
  z : ∀ b, b < n → On L (ia b) → ¬ On L (is b) → Hd w (g b) dy0 none 0 ∧ Fzr w (g b)
  y : ∀ b, b < n → On L (is b) → ∃ ao cap, Hd w (g b) (P b) ao cap ∧ Frs W.heap.size ao ∧ (∀ c, c < n → On L (ia c) → NoIn ao (P b) (g c))
  dc : ∀ j k, On L j → waits ops j k = true → On L k
section
variable {ops : Array Oper} {W : World} {n : Nat} {ia is : Nat → Nat} {P : Nat → Dy} {K : Nat → Option (Dy × Bool)} {val : Nat → Value} {L : Array Bool} {w : World} {v : Nat → Value} {g : Nat → Nat}
theorem RgE.start {k : Nat} (h : Below W.heap.size W w) : RgE ops W n ia is P K val (Array.replicate k false) w v g :=
  ⟨h, fun _ _ _ q => absurd q on_none, fun _ _ _ _ q => absurd q on_none, fun _ _ q => absurd q on_none, fun _ _ _ _ _ q => absurd q on_none, fun _ _ q => absurd q on_none, fun _ _ q => absurd q on_none, fun _ _ q => absurd q on_none⟩
/-- A step whose value is known; memory may be made. -/
theorem RgE.step {i : Nat} {u : Value} {w' : World} (h : RgE ops W n ia is P K val L w v g) (hL : L.size = ops.size) (hi : i ∈ Region.ready .any ops L) (hk : K i = none) (hia : ∀ b, b < n → i ≠ ia b) (his : ∀ b, b < n → i ≠ is b) (hb : Below w.heap.size w w') (hu : u = val i) :
    RgE ops W n ia is P K val (L.setIfInBounds i true) w' (put9 v i u) g := by
  have hi2 : i < L.size := by rw [hL]; exact (mem_ready hi).1
  have on := fun (j : Nat) (q : j ≠ i) (e : On (L.setIfInBounds i true) j) => ((on_set hi2 j).1 e).resolve_left q
  have up := fun (j : Nat) (e : On L j) => (on_set hi2 j).2 (Or.inr e)
  refine ⟨h.m.trans (hb.mono h.m.size), fun j hj qa e => ?_, fun j D t hj e => ?_, fun b hbn e => ?_, fun b c hbn hcn hne e f => ?_, fun b hbn e f => ?_, fun b hbn e => ?_, fun j k e hw => ?_⟩
  · by_cases q : j = i
    · subst q; rw [put9, if_pos rfl]; exact hu
    · rw [put9, if_neg q]; exact h.d j hj qa (on j q e)
  · have q : j ≠ i := fun q => by rw [q, hk] at hj; cases hj
    rw [put9, if_neg q]
    obtain ⟨ao, cap, e1, e2, e4, e3⟩ := h.r j D t hj (on j q e)
    exact ⟨ao, cap, e1, e2.below hb, e4, fun b hbn f => e3 b hbn (on _ (Ne.symm (hia b hbn)) f)⟩
  · rw [put9, if_neg (Ne.symm (hia b hbn))]
    obtain ⟨p1, p2, p3⟩ := h.p b hbn (on _ (Ne.symm (hia b hbn)) e)
    exact ⟨p1, p2, Nat.lt_of_lt_of_le p3 hb.size⟩
  · exact h.ne b c hbn hcn hne (on _ (Ne.symm (hia b hbn)) e) (on _ (Ne.symm (hia c hcn)) f)
  · obtain ⟨n1, n2⟩ := h.z b hbn (on _ (Ne.symm (hia b hbn)) e) (fun q => f (up _ q))
    exact n1.six n2 hb
  · obtain ⟨a, c, e1, e2, e3⟩ := h.y b hbn (on _ (Ne.symm (his b hbn)) e)
    exact ⟨a, c, e1.below hb, e2, fun d hd f => e3 d hd (on _ (Ne.symm (hia d hd)) f)⟩
  · rcases (on_set hi2 j).1 e with q | q
    · subst q; exact up k (ready_dep hi k hw)
    · exact up k (h.dc j k q hw)
/-- A step that gives a dyad: by a call. -/
theorem RgE.stepD {i : Nat} {D : Dy} {t : Bool} {ao : Option Addr} {cap : Nat} {w' : World} (h : RgE ops W n ia is P K val L w v g) (hL : L.size = ops.size) (hi : i ∈ Region.ready .any ops L) (hk : K i = some (D, t)) (hia : ∀ b, b < n → i ≠ ia b) (his : ∀ b, b < n → i ≠ is b) (hb : Below w.heap.size w w') (hr : LRow w' ao D.mag) (hf : Frs w.heap.size ao) :
    RgE ops W n ia is P K val (L.setIfInBounds i true) w' (put9 v i (dyU D ao cap t)) g := by
  have hi2 : i < L.size := by rw [hL]; exact (mem_ready hi).1
  have on := fun (j : Nat) (q : j ≠ i) (e : On (L.setIfInBounds i true) j) => ((on_set hi2 j).1 e).resolve_left q
  have up := fun (j : Nat) (e : On L j) => (on_set hi2 j).2 (Or.inr e)
  refine ⟨h.m.trans (hb.mono h.m.size), fun j hj qa e => ?_, fun j D' t' hj e => ?_, fun b hbn e => ?_, fun b c hbn hcn hne e f => ?_, fun b hbn e f => ?_, fun b hbn e => ?_, fun j k e hw => ?_⟩
  · have q : j ≠ i := fun q => by rw [q, hk] at hj; cases hj
    rw [put9, if_neg q]; exact h.d j hj qa (on j q e)
  · by_cases q : j = i
    · subst q
      rw [hk] at hj
      cases hj
      rw [put9, if_pos rfl]
      refine ⟨ao, cap, rfl, hr, hf.mono h.m.size, fun b hbn f b' off ea h0 => ?_⟩
      have k1 := hf _ ea
      have k2 := (h.p b hbn (on _ (Ne.symm (hia b hbn)) f)).2.2
      have k1 : w.heap.size ≤ b' := k1
      omega
    · rw [put9, if_neg q]
      obtain ⟨a, c, e1, e2, e4, e3⟩ := h.r j D' t' hj (on j q e)
      exact ⟨a, c, e1, e2.below hb, e4, fun b hbn f => e3 b hbn (on _ (Ne.symm (hia b hbn)) f)⟩
  · rw [put9, if_neg (Ne.symm (hia b hbn))]
    obtain ⟨p1, p2, p3⟩ := h.p b hbn (on _ (Ne.symm (hia b hbn)) e)
    exact ⟨p1, p2, Nat.lt_of_lt_of_le p3 hb.size⟩
  · exact h.ne b c hbn hcn hne (on _ (Ne.symm (hia b hbn)) e) (on _ (Ne.symm (hia c hcn)) f)
  · obtain ⟨n1, n2⟩ := h.z b hbn (on _ (Ne.symm (hia b hbn)) e) (fun q => f (up _ q))
    exact n1.six n2 hb
  · obtain ⟨a, c, e1, e2, e3⟩ := h.y b hbn (on _ (Ne.symm (his b hbn)) e)
    exact ⟨a, c, e1.below hb, e2, fun d hd f => e3 d hd (on _ (Ne.symm (hia d hd)) f)⟩
  · rcases (on_set hi2 j).1 e with q | q
    · subst q; exact up k (ready_dep hi k hw)
    · exact up k (h.dc j k q hw)
theorem RgE.make {b : Nat} (h : RgE ops W n ia is P K val L w v g) (hL : L.size = ops.size) (hbn : b < n) (hi : ia b ∈ Region.ready .any ops L) (hno : ¬ On L (ia b)) (hk : K (ia b) = none) (hinj : ∀ c, c < n → c ≠ b → ia b ≠ ia c) (hne : ∀ c, c < n → ia b ≠ is c) (hw2 : waits ops (is b) (ia b) = true) :
    RgE ops W n ia is P K val (L.setIfInBounds (ia b) true) (w.alloc (.cells #[.bool false, .slice none 0 0, .int .i64 0] 38)) (put9 v (ia b) (.pointer (some ⟨w.heap.size, 0, none⟩))) (fun c => if c = b then w.heap.size else g c) := by
  have hi2 : ia b < L.size := by rw [hL]; exact (mem_ready hi).1
  have on := fun (j : Nat) (q : j ≠ ia b) (e : On (L.setIfInBounds (ia b) true) j) => ((on_set hi2 j).1 e).resolve_left q
  have up := fun (j : Nat) (e : On L j) => (on_set hi2 j).2 (Or.inr e)
  have hb : Below w.heap.size w (w.alloc (.cells #[.bool false, .slice none 0 0, .int .i64 0] 38)) := (Below.refl _ _).alloc (Nat.le_refl _) _
  have hni : ∀ {a : Option Addr} {D : Dy}, LRow w a D.mag → NoIn a D w.heap.size := fun e2 b' off ea h0 => Nat.ne_of_lt (row_lt e2 b' off ea h0)
  refine ⟨h.m.trans (hb.mono h.m.size), fun j hj qa e => ?_, fun j D t hj e => ?_, fun c hc e => ?_, fun c d hc hd hcd e f => ?_, fun c hc e f => ?_, fun c hc e => ?_, fun j k e hw => ?_⟩
  · have q : j ≠ ia b := qa b hbn
    rw [put9, if_neg q]; exact h.d j hj qa (on j q e)
  · have q : j ≠ ia b := fun q => by rw [q, hk] at hj; cases hj
    rw [put9, if_neg q]
    obtain ⟨a, c, e1, e2, e4, e3⟩ := h.r j D t hj (on j q e)
    refine ⟨a, c, e1, e2.below hb, e4, fun c' hc' f => ?_⟩
    by_cases q : c' = b
    · simp only [if_pos q]; exact hni e2
    · simp only [if_neg q]; exact e3 c' hc' (on _ (Ne.symm (hinj c' hc' q)) f)
  · by_cases q : c = b
    · subst q; rw [put9, if_pos rfl]; simp only [if_true]; exact ⟨trivial, h.m.size, by simp⟩
    · have q' := Ne.symm (hinj c hc q)
      rw [put9, if_neg q']; simp only [if_neg q]
      obtain ⟨p1, p2, p3⟩ := h.p c hc (on _ q' e)
      exact ⟨p1, p2, Nat.lt_of_lt_of_le p3 hb.size⟩
  · by_cases q : c = b
    · subst q
      have q' := Ne.symm (hinj d hd (Ne.symm hcd))
      simp only [if_true, if_neg (Ne.symm hcd)]
      have := (h.p d hd (on _ q' f)).2.2
      omega
    · have q' := Ne.symm (hinj c hc q)
      simp only [if_neg q]
      by_cases r : d = b
      · subst r
        simp only [if_true]
        have := (h.p c hc (on _ q' e)).2.2
        omega
      · simp only [if_neg r]
        exact h.ne c d hc hd hcd (on _ q' e) (on _ (Ne.symm (hinj d hd r)) f)
  · by_cases q : c = b
    · subst q; simp only [if_true]; exact ⟨Hd.new (d := dy0) (Or.inl rfl), fz_new _ _ _ _⟩
    · simp only [if_neg q]
      obtain ⟨n1, n2⟩ := h.z c hc (on _ (Ne.symm (hinj c hc q)) e) (fun q => f (up _ q))
      exact n1.six n2 hb
  · have e' := on _ (Ne.symm (hne c hc)) e
    by_cases q : c = b
    · subst q; exact absurd (h.dc _ _ e' hw2) hno
    · simp only [if_neg q]
      obtain ⟨a, c2, e1, e2, e3⟩ := h.y c hc e'
      refine ⟨a, c2, e1.below hb, e2, fun d hd f => ?_⟩
      by_cases r : d = b
      · simp only [if_pos r]; exact hni e1.row
      · simp only [if_neg r]; exact e3 d hd (on _ (Ne.symm (hinj d hd r)) f)
  · rcases (on_set hi2 j).1 e with q | q
    · subst q; exact up k (ready_dep hi k hw)
    · exact up k (h.dc j k q hw)
theorem RgE.store {b : Nat} {u : Value} {ao : Option Addr} {cap : Nat} (h : RgE ops W n ia is P K val L w v g) (hL : L.size = ops.size) (hbn : b < n) (hi : is b ∈ Region.ready .any ops L) (hno : ¬ On L (is b)) (hk : K (is b) = none) (hne : ∀ c, c < n → ia c ≠ is b) (hinj : ∀ c, c < n → c ≠ b → is c ≠ is b) (hw2 : ∀ c, c < n → waits ops (is c) (ia c) = true) (hr : LRow w ao (P b).mag) (hfr : Frs W.heap.size ao) (hn : ∀ c, c < n → On L (ia c) → NoIn ao (P b) (g c)) (hu : u = val (is b)) :
    RgE ops W n ia is P K val (L.setIfInBounds (is b) true) (((w.setCell ⟨g b, 0, none⟩ (.bool (P b).neg)).setCell ⟨g b, 1, none⟩ (.slice ao (P b).mag.length cap)).setCell ⟨g b, 2, none⟩ (.int .i64 (P b).exp)) (put9 v (is b) u) g := by
  have hi2 : is b < L.size := by rw [hL]; exact (mem_ready hi).1
  have on := fun (j : Nat) (q : j ≠ is b) (e : On (L.setIfInBounds (is b) true) j) => ((on_set hi2 j).1 e).resolve_left q
  have up := fun (j : Nat) (e : On L j) => (on_set hi2 j).2 (Or.inr e)
  have ha := ready_dep hi (ia b) (hw2 b hbn)
  obtain ⟨p1, p2, p3⟩ := h.p b hbn ha
  obtain ⟨n1, n2⟩ := h.z b hbn ha hno
  have keep : ∀ {a : Option Addr} {m : List Nat}, LRow w a m → (∀ b' off, a = some ⟨b', off, none⟩ → m.length ≠ 0 → b' ≠ g b) → LRow (((w.setCell ⟨g b, 0, none⟩ (.bool (P b).neg)).setCell ⟨g b, 1, none⟩ (.slice ao (P b).mag.length cap)).setCell ⟨g b, 2, none⟩ (.int .i64 (P b).exp)) a m := fun e2 ni => ((e2.setCell (p := ⟨g b, 0, none⟩) _ ni).setCell (p := ⟨g b, 1, none⟩) _ ni).setCell (p := ⟨g b, 2, none⟩) _ ni
  refine ⟨((h.m.setCell p2 _).setCell p2 _).setCell p2 _, fun j hj qa e => ?_, fun j D t hj e => ?_, fun c hc e => ?_, fun c d hc hd hcd e f => ?_, fun c hc e f => ?_, fun c hc e => ?_, fun j k e hw => ?_⟩
  · by_cases q : j = is b
    · subst q; rw [put9, if_pos rfl]; exact hu
    · rw [put9, if_neg q]; exact h.d j hj qa (on j q e)
  · have q : j ≠ is b := fun q => by rw [q, hk] at hj; cases hj
    rw [put9, if_neg q]
    obtain ⟨a, c, e1, e2, e4, e3⟩ := h.r j D t hj (on j q e)
    exact ⟨a, c, e1, keep e2 (e3 b hbn ha), e4, fun c' hc' f => e3 c' hc' (on _ (hne c' hc') f)⟩
  · rw [put9, if_neg (hne c hc)]
    obtain ⟨r1, r2, r3⟩ := h.p c hc (on _ (hne c hc) e)
    exact ⟨r1, r2, by simp [World.setCell]; exact r3⟩
  · exact h.ne c d hc hd hcd (on _ (hne c hc) e) (on _ (hne d hd) f)
  · have hcb : c ≠ b := fun q => by subst q; exact f ((on_set hi2 _).2 (Or.inl rfl))
    have ec := on _ (hne c hc) e
    obtain ⟨m1, m2⟩ := h.z c hc ec (fun q => f (up _ q))
    exact ⟨m1.oth (h.ne c b hc hbn hcb ec ha) _ _ _ (Or.inl rfl), m2.set _ _ _ _⟩
  · by_cases q : c = b
    · subst q
      exact ⟨ao, cap, put3n n1 hr (hn _ hc ha), hfr, fun d hd f => hn d hd (on _ (hne d hd) f)⟩
    · have ec := on _ (hinj c hc q) e
      have ac := h.dc _ _ ec (hw2 c hc)
      obtain ⟨a, c2, e1, e2, e3⟩ := h.y c hc ec
      exact ⟨a, c2, e1.oth (h.ne c b hc hbn q ac ha) _ _ _ (keep e1.row (e3 b hbn ha)), e2, fun d hd f => e3 d hd (on _ (hne d hd) f)⟩
  · rcases (on_set hi2 j).1 e with q | q
    · subst q; exact up k (ready_dep hi k hw)
    · exact up k (h.dc j k q hw)
theorem region_rgE {Pr : Program} {Q : Exit → Act → World → Prop} {id : Nat} {a : Act} (hm : Pr.follows .mixedOrders = true) (F : (Nat → Value) → Act) (n : Nat) (ia is : Nat → Nat) (P : Nat → Dy) (K : Nat → Option (Dy × Bool)) (val : Nat → Value) (v0 : Nat → Value) (h0 : a = F v0)
    (hs : ∀ L v g w i, L.size = ops.size → RgE ops W n ia is P K val L w v g → i ∈ Region.ready .any ops L → wpOp Pr ops Q i (fun a' w' => ∃ v' g', a' = F v' ∧ RgE ops W n ia is P K val (L.setIfInBounds i true) w' v' g') (F v) w)
    (hf : ∀ L v g w, L.size = ops.size → RgE ops W n ia is P K val L w v g → Region.ready .any ops L = [] → Q .normal (F v) w) : (Code.region id ops true).wp Pr Q a W := by
  refine region_inv hm (fun L a w' => ∃ v g, a = F v ∧ RgE ops W n ia is P K val L w' v g) ⟨v0, fun _ => 0, h0, RgE.start (Below.refl _ _).drew⟩ ?_ ?_
  · rintro L a w' i hL ⟨v, g, rfl, hS⟩ hi
    exact hs L v g w' i hL hS hi
  · rintro L a w' hL ⟨v, g, rfl, hS⟩ hr
    exact hf L v g w' hL hS hr
end
end Go.Proofs.YtbhkgjjogepgnaaDoor

namespace Go.Proofs.YtbhkgjjogepgnaaDoor
open Go.RowKit

/-- What stands in memory while a step of Dot is under way. -/
def DtM (w : World) (p q u v t0 t1 x0 x1 : Nat) (bb : Bool) (w' : World) : Prop := Below w.heap.size w w' ∧ Bx w' w.heap.size (.float .f64 0) (.float .f64 0) ∧ Bx w' p (.float .f64 (if bb then u else t0)) (.float .f64 (if bb then v else t1)) ∧ Bx w' q (.float .f64 x0) (.float .f64 x1)
set_option maxHeartbeats 1000000 in
theorem sdotL_shape (n m : Nat) (ao bo : Option Addr) (cap bcap : Nat) (h : n ≠ m) (w : World) :
    Calls Tryd.prog 20 #[.slice ao n cap, .slice bo m bcap] w fun e w' => e = .returned (.tuple #[spV 0 0, .int .i64 4]) ∧ Below w.heap.size w w' := by
  have hst := run_storef Tryd.prog
  have hne : ((n : Int) != (m : Int)) = true := by simp; omega
  obtain ⟨c0, c1, f0, f1, _⟩ := Bx.new w (.float .f64 0) (.float .f64 0) 24
  have Z := (Below.refl w.heap.size w).alloc (Nat.le_refl _) (.cells #[.float .f64 0, .float .f64 0] 24)
  go_enter Tryd.func20, Tryd.ntmps20
  go_wp2
  exact bodyPost_ret (v := .tuple #[spV 0 0, .int .i64 4]) (by simp [results, Tryd.results20, go_sem]) rfl ⟨rfl, by first | exact set2 Z (Nat.le_refl _) _ _ | exact Z⟩
set_option maxHeartbeats 1000000 in
theorem sdotL_not (ps qs : List (Nat × Nat)) (ao bo : Option Addr) (cap bcap : Nat) (w : World) (hr : SRow w ao ps) (hs : SRow w bo qs) (hn : ps.length ≤ 1125899906842624) (he : ps.length = qs.length) (hq : (rtL ps && rtL qs) = false) :
    Calls Tryd.prog 20 #[.slice ao ps.length cap, .slice bo qs.length bcap] w fun e w' => e = .returned (.tuple #[spV 0 0, .int .i64 2]) ∧ Below w.heap.size w w' := by
  have hst := run_storef Tryd.prog
  have ca := fun w h => sall_any ps ao cap w h hn
  have cb := fun w h => sall_any qs bo bcap w h (by omega)
  rw [← he] at cb ⊢
  generalize ps.length = N at *
  have hne : ((N : Int) != (N : Int)) = false := by simp
  cases q1 : rtL ps <;> rw [q1] at ca hq
  · clear he cb
    go_enter Tryd.func20, Tryd.ntmps20
    go_wp2_with (go_at_call 24; refine (ca _ (hr.below ((Below.refl _ _).alloc (Nat.le_refl _) _))).mono ?_; rintro e w1 ⟨rfl, b1⟩; obtain ⟨c0, c1, f0, f1, _⟩ := (Bx.new _ _ _ _).below b1)
    exact bodyPost_ret (v := .tuple #[spV 0 0, .int .i64 2]) (by simp [results, Tryd.results20, go_sem, c0, c1]) rfl ⟨rfl, set2 (old1 b1) (Nat.le_refl _) _ _⟩
  · have q2 : rtL qs = false := by simpa using hq
    rw [q2] at cb
    clear he hq
    go_enter Tryd.func20, Tryd.ntmps20
    go_wp2_with (first
      | (go_at_call 24; refine (cb _ (hs.below Z1)).mono ?_; rintro e w2 ⟨rfl, b2⟩; obtain ⟨c0, c1, f0, f1, _⟩ := R1.below b2; have Z2 := Z1.trans (b2.mono Z1.size))
      | (go_at_call 24; refine (ca _ (hr.below ((Below.refl _ _).alloc (Nat.le_refl _) _))).mono ?_; rintro e w1 ⟨rfl, b1⟩; have R1 := (Bx.new _ _ _ _).below b1; have Z1 := old1 b1))
    exact bodyPost_ret (v := .tuple #[spV 0 0, .int .i64 2]) (by simp [results, Tryd.results20, go_sem, c0, c1]) rfl ⟨rfl, set2 Z2 (Nat.le_refl _) _ _⟩
end Go.Proofs.YtbhkgjjogepgnaaDoor

namespace Go.Proofs.YtbhkgjjogepgnaaDoor
open Go.RowKit

theorem ssum_P5 {o p : Nat × Nat} (h : RtP o) (g : RtP p) (w : World) (hT : TabW w) :
    Calls Tryd.prog 27 #[spV o.1 o.2, spV p.1 p.2] w fun e w' => e = .returned (spV (adP o p).1 (adP o p).2) ∧ Below w.heap.size w w' := by
  obtain ⟨na, nb, fa, fb, _⟩ := rt_facts h.1 h.2.1 h.2.2
  obtain ⟨nc, nd, fc, fd, _⟩ := rt_facts g.1 g.2.1 g.2.2
  have o1 := addS_ok h.1 g.1 na nc (by rcases fa with h | h <;> rcases fc with g | g <;> simp [h, g])
  have o2 := addS_ok h.2.1 g.2.1 nb nd (by rcases fb with h | h <;> rcases fd with g | g <;> simp [h, g])
  exact ssum_B o.1 o.2 p.1 p.2 _ _ (radd_P 1 h.1 g.1 o1).2 (radd_P 2 h.2.1 g.2.1 o2).2 w hT
theorem sprod_P5 {p q : Nat × Nat} (h : RtP p) (g : RtP q) (w : World) (hT : TabW w) :
    Calls Tryd.prog 28 #[spV p.1 p.2, spV q.1 q.2] w fun e w' => e = .returned (spV (muP p q).1 (muP p q).2) ∧ Below w.heap.size w w' :=
  sproduct_B p.1 p.2 q.1 q.2 tB (corn_mulP h.1 h.2.1 g.1 g.2.1 h.2.2 g.2.2) w hT
set_option maxHeartbeats 2000000 in
theorem ssumP_any (ps : List (Nat × Nat)) (ao : Option Addr) (cap : Nat) (w : World) (hT : TabW w) (hr : SRow w ao ps) (hF : FS ps) (hn : ps.length ≤ 1125899906842624) :
    Calls Tryd.prog 19 #[.slice ao ps.length cap] w fun e w' => e = .returned (tsE (smA ps)) ∧ Below w.heap.size w w' := by
  have hst := run_storef Tryd.prog
  have ca := fun w h => sall_any ps ao cap w h hn
  cases hq : rtL ps <;> rw [hq] at ca
  · have HE : Hid (smA ps = ((0, 0), 2)) := (show _ = _ by unfold smA; rw [hq]; rfl)
    obtain ⟨N, hN⟩ : ∃ N, ps.length = N := ⟨_, rfl⟩
    rw [hN] at ca ⊢
    clear hN hF
    go_enter Tryd.func19, Tryd.ntmps19
    go_wp2_with (go_at_call 24; refine (ca _ (hr.below ((Below.refl _ _).alloc (Nat.le_refl _) _))).mono ?_; rintro e w1 ⟨rfl, b1⟩; obtain ⟨c0, c1, f0, f1, _⟩ := (Bx.new _ _ _ _).below b1)
    exact bodyPost_ret (v := .tuple #[spV 0 0, .int .i64 2]) (by simp [results, Tryd.results19, go_sem, c0, c1]) rfl ⟨by rw [HE.out], set2 (old1 b1) (Nat.le_refl _) _ _⟩
  · have HE : Hid (smA ps = (smP ps, 0)) := (show _ = _ by unfold smA; rw [hq]; rfl)
    have HR : Hid (∀ k, k ≤ ps.length → RtP (smP (ps.take k))) := smP_rt hF hq
    have HA : Hid (∀ k, k < ps.length → RtP (ps.getD k (0, 0))) := fun k hk => rt_at hF hq hk
    obtain ⟨N, hN⟩ : ∃ N, ps.length = N := ⟨_, rfl⟩
    have HN : Hid (ps.length = N) := hN
    rw [hN] at ca hn ⊢
    clear hN hF
    go_enter Tryd.func19, Tryd.ntmps19
    go_upto_region 4 with (go_at_call 24; refine (ca _ (hr.below ((Below.refl _ _).alloc (Nat.le_refl _) _))).mono ?_; rintro e w1 ⟨rfl, b1⟩)
    have R1 := (Bx.new w (.float .f64 0) (.float .f64 0) 24).below b1
    have Z1 := old1 b1
    clear b1 ca
    have R2 := R1.alloc (.cells #[.float .f64 0, .float .f64 0] 24)
    have H2 := Bx.new w1 (.float .f64 0) (.float .f64 0) 24
    have Z2 := Z1.alloc Z1.size (.cells #[.float .f64 0, .float .f64 0] 24)
    have np : w.heap.size ≠ w1.heap.size := by have := R1.2.2.2.2; omega
    have hp : w.heap.size ≤ w1.heap.size := Z1.size
    generalize w1.alloc (.cells #[.float .f64 0, .float .f64 0] 24) = w2 at *
    generalize w1.heap.size = p at *
    clear R1 Z1
    go_wp2
    go_loopg [6, 14] N (fun g _ v wr => ∃ k : Nat, k ≤ N ∧ g = N - k ∧ v = .int .i64 k ∧ Below w.heap.size w wr ∧ Bx wr w.heap.size (.float .f64 0) (.float .f64 0) ∧ Bx wr p (.float .f64 (smP (ps.take k)).1) (.float .f64 (smP (ps.take k)).2))
    case atStart => exact ⟨0, by omega, rfl, rfl, Z2, R2, by simpa [smP] using H2⟩
    case round =>
      obtain ⟨k, hk, hg, rfl, Zr, Rr, Hr⟩ := hrel
      have HG : Hid (gk = N - k) := hg
      clear hg R2 H2 Z2
      by_cases hlt : k < N
      · rcases hr.below Zr with h | ⟨b, off, rfl, hc⟩
        · exact absurd (HN.out ▸ h) (by omega)
        · have hkl : k < ps.length := by rw [HN.out]; exact hlt
          obtain ⟨g1, g2⟩ := hc k hkl
          have ht := stake_at hkl
          have ra := HA.out k hkl
          have rb := HR.out k (by omega)
          obtain ⟨x, ex⟩ : ∃ x, ps.getD k (0, 0) = x := ⟨_, rfl⟩
          obtain ⟨t, et⟩ : ∃ t, smP (ps.take k) = t := ⟨_, rfl⟩
          rw [ex] at g1 g2 ht ra
          rw [et] at rb Hr
          have HS : Hid (smP (ps.take (k + 1)) = adP t x) := (show _ = _ by rw [ht, smP_snoc, et])
          have cs := fun w hT => ssum_P5 rb ra w hT
          obtain ⟨⟨u, v⟩, eu⟩ : ∃ u, adP t x = u := ⟨_, rfl⟩
          rw [eu] at HS cs
          obtain ⟨x0, x1⟩ := x
          obtain ⟨t0, t1⟩ := t
          simp only at g1 g2 cs Hr
          have i1 : (k : Int) < (N : Int) := by omega
          have i2 : k < N := hlt
          have Tr := tabW_below hT Zr
          have bz := Zr.size
          have h0 := (Hr.alloc (.cells #[.float .f64 x0, .float .f64 x1] 24)).1
          have h1 := (Hr.alloc (.cells #[.float .f64 x0, .float .f64 x1] 24)).2.1
          clear hc ht ex et eu ra rb hkl hr
          go_wp2_with (go_at_call 27; refine (cs _ (tabW_alloc Tr _)).mono ?_; rintro e w3 ⟨rfl, b3⟩; obtain ⟨k0, k1, k2, k3, _⟩ := (Hr.alloc _).below b3)
          have H4 := ((Hr.alloc _).below b3).put (.float .f64 u) (.float .f64 v)
          have R4 := ((Rr.alloc _).below b3).other np (.float .f64 u) (.float .f64 v)
          have Z4 := set2 (bstep Zr b3) hp (.float .f64 u) (.float .f64 v)
          go_roundg (N - (k + 1))
          case measure => rw [HG.out]; omega
          case rel => exact ⟨k + 1, by omega, rfl, by go_num, Z4, R4, by rw [HS.out]; exact H4⟩
      · have e : ps.take k = ps := List.take_of_length_le (by have := HN.out; omega)
        rw [e] at Hr
        obtain ⟨⟨t0, t1⟩, et⟩ : ∃ t, smP ps = t := ⟨_, rfl⟩
        rw [et] at Hr HE
        simp only at Hr
        obtain ⟨c0, c1, f0, f1, _⟩ := Rr
        obtain ⟨d0, d1, _⟩ := Hr
        have i1 : ¬ (k : Int) < (N : Int) := by omega
        clear e et
        go_wp2
        exact bodyPost_ret (v := .tuple #[spV t0 t1, .int .i64 0]) (by simp [results, Tryd.results19, go_sem, c0, c1]) rfl ⟨by rw [HE.out], set2 Zr (Nat.le_refl _) _ _⟩
set_option maxHeartbeats 4000000 in
theorem sdotP_yes (ps qs : List (Nat × Nat)) (ao bo : Option Addr) (cap bcap : Nat) (w : World) (hT : TabW w) (hr : SRow w ao ps) (hs : SRow w bo qs) (hF : FS ps) (hG : FS qs) (hn : ps.length ≤ 1125899906842624) (he : ps.length = qs.length) (q1 : rtL ps = true) (q2 : rtL qs = true) :
    Calls Tryd.prog 20 #[.slice ao ps.length cap, .slice bo qs.length bcap] w fun e w' => e = .returned (.tuple #[spV (dtP ps qs ps.length).1 (dtP ps qs ps.length).2, .int .i64 0]) ∧ Below w.heap.size w w' := by
  have hst := run_storef Tryd.prog
  have ca := fun w h => sall_any ps ao cap w h hn
  have cb := fun w h => sall_any qs bo bcap w h (by omega)
  rw [q1] at ca
  rw [q2] at cb
  have HR : Hid (∀ k, k ≤ ps.length → RtP (dtP ps qs k)) := fun k hk => dtP_rt hF q1 hG q2 k hk (by omega)
  have HA : Hid (∀ k, k < ps.length → RtP (ps.getD k (0, 0)) ∧ RtP (qs.getD k (0, 0))) := fun k hk => ⟨rt_at hF q1 hk, rt_at hG q2 (by omega)⟩
  rw [← he] at cb ⊢
  obtain ⟨N, hN⟩ : ∃ N, ps.length = N := ⟨_, rfl⟩
  have HN : Hid (ps.length = N) := hN
  have HM : Hid (qs.length = N) := he.symm.trans hN
  obtain ⟨⟨r0, r1⟩, er⟩ : ∃ t, dtP ps qs ps.length = t := ⟨_, rfl⟩
  rw [er]
  rw [hN] at ca cb hn er ⊢
  have HE : Hid (dtP ps qs N = (r0, r1)) := er
  clear hN hF hG he q1 q2 er
  have hne : ((N : Int) != (N : Int)) = false := by simp
  go_enter Tryd.func20, Tryd.ntmps20
  go_upto_region 6 with (first
    | (go_at_call 24; refine (cb _ (hs.below Z1)).mono ?_; rintro e w2 ⟨rfl, b2⟩; have R2 := R1.below b2; have Z2 := Z1.trans (b2.mono Z1.size))
    | (go_at_call 24; refine (ca _ (hr.below ((Below.refl _ _).alloc (Nat.le_refl _) _))).mono ?_; rintro e w1 ⟨rfl, b1⟩; have R1 := (Bx.new w (.float .f64 0) (.float .f64 0) 24).below b1; have Z1 := old1 b1))
  have R3 := R2.alloc (.cells #[.float .f64 0, .float .f64 0] 24)
  have H3 := Bx.new w2 (.float .f64 0) (.float .f64 0) 24
  have Z3 := Z2.alloc Z2.size (.cells #[.float .f64 0, .float .f64 0] 24)
  have np : w.heap.size ≠ w2.heap.size := by have := R2.2.2.2.2; omega
  have hp : w.heap.size ≤ w2.heap.size := Z2.size
  generalize w2.alloc (.cells #[.float .f64 0, .float .f64 0] 24) = w3 at *
  generalize w2.heap.size = p at *
  clear R1 Z1 R2 Z2 b1 b2 ca cb
  go_wp2
  go_loopg [7, 8, 29] N (fun g _ _ v wr => ∃ k : Nat, k ≤ N ∧ g = N - k ∧ v = .int .i64 k ∧ Below w.heap.size w wr ∧ Bx wr w.heap.size (.float .f64 0) (.float .f64 0) ∧ Bx wr p (.float .f64 (dtP ps qs k).1) (.float .f64 (dtP ps qs k).2))
  case atStart => exact ⟨0, by omega, rfl, rfl, Z3, R3, H3⟩
  case round =>
    obtain ⟨k, hk, hg, rfl, Zr, Rr, Hr⟩ := hrel
    have HG : Hid (gk = N - k) := hg
    clear hg R3 H3 Z3
    by_cases hlt : k < N
    · rcases hr.below Zr with h | ⟨b, off, rfl, hc⟩
      · exact absurd (HN.out ▸ h) (by omega)
      · rcases hs with h | ⟨b2, off2, rfl, hd⟩
        · exact absurd (HM.out ▸ h) (by omega)
        · have hkl : k < ps.length := by rw [HN.out]; exact hlt
          obtain ⟨g1, g2⟩ := hc k hkl
          obtain ⟨dw1, dw2⟩ := hd k (by rw [HM.out]; exact hlt)
          obtain ⟨ra, rc⟩ := HA.out k hkl
          have rb := HR.out k (by omega)
          have HS : Hid (dtP ps qs (k + 1) = adP (dtP ps qs k) (muP (ps.getD k (0, 0)) (qs.getD k (0, 0)))) := (show _ = _ from rfl)
          obtain ⟨x, ex⟩ : ∃ x, ps.getD k (0, 0) = x := ⟨_, rfl⟩
          obtain ⟨y, ey⟩ : ∃ y, qs.getD k (0, 0) = y := ⟨_, rfl⟩
          obtain ⟨t, et⟩ : ∃ t, dtP ps qs k = t := ⟨_, rfl⟩
          rw [ex] at g1 g2 ra HS
          rw [ey] at dw1 dw2 rc HS
          rw [et] at rb Hr HS
          have rm := muP_rt ra rc
          have cm := fun w hT => sprod_P5 ra rc w hT
          have cs := fun w hT => ssum_P5 rb rm w hT
          obtain ⟨z, ez⟩ : ∃ z, muP x y = z := ⟨_, rfl⟩
          rw [ez] at HS cm cs
          obtain ⟨⟨u, v9⟩, eu⟩ : ∃ u, adP t z = u := ⟨_, rfl⟩
          rw [eu] at HS cs
          obtain ⟨x0, x1⟩ := x
          obtain ⟨y0, y1⟩ := y
          obtain ⟨z0, z1⟩ := z
          obtain ⟨t0, t1⟩ := t
          simp only at g1 g2 dw1 dw2 cs cm Hr
          have i1 : (k : Int) < (N : Int) := by omega
          have i2 : k < N := hlt
          have bz := Zr.size
          clear hc hd ex ey et ez eu ra rb rc rm hkl hr
          go_upto_region 9 with fail
          have H4 := Hr.alloc (.cells #[.float .f64 x0, .float .f64 x1] 24)
          have R4 := Rr.alloc (.cells #[.float .f64 x0, .float .f64 x1] 24)
          have X4 := Bx.new wr (.float .f64 x0) (.float .f64 x1) 24
          have Z4 := Zr.alloc Zr.size (.cells #[.float .f64 x0, .float .f64 x1] 24)
          have T4 := tabW_below hT Z4
          have nq : p ≠ wr.heap.size := by have := Hr.2.2.2.2; omega
          generalize wr.alloc (.cells #[.float .f64 x0, .float .f64 x1] 24) = w4 at *
          generalize wr.heap.size = q at *
          clear Hr Rr Zr g1 g2
          have M0 : (DtM w p q u v9 t0 t1 x0 x1) false w4.drew := ⟨Z4.drew, R4, H4, X4⟩
          have hM : ∀ b w1 w2, (DtM w p q u v9 t0 t1 x0 x1) b w1 → Below w1.heap.size w1 w2 → (DtM w p q u v9 t0 t1 x0 x1) b w2 := fun b w1 w2 m hb => ⟨m.1.trans (hb.mono m.1.size), m.2.1.below hb, m.2.2.1.below hb, m.2.2.2.below hb⟩
          obtain ⟨VAL, hVAL⟩ : ∃ V : Nat → Value, V = (fun j => match j with | 0 => .agg #[.float .f64 t0, .float .f64 t1] | 1 => .agg #[.float .f64 x0, .float .f64 x1] | 2 => .slice (some ⟨b2, off2, none⟩) N bcap | 3 => .int .i64 k | 4 => .pointer (some ⟨b2, off2 + k * 2, none⟩) | 5 => .agg #[.float .f64 y0, .float .f64 y1] | 6 => .agg #[.float .f64 z0, .float .f64 z1] | 7 => .agg #[.float .f64 u, .float .f64 v9] | 8 => undef | _ => undef) := ⟨_, rfl⟩
          have V0 : VAL 0 = .agg #[.float .f64 t0, .float .f64 t1] := congrFun hVAL 0
          have V1 : VAL 1 = .agg #[.float .f64 x0, .float .f64 x1] := congrFun hVAL 1
          have V2 : VAL 2 = .slice (some ⟨b2, off2, none⟩) N bcap := congrFun hVAL 2
          have V3 : VAL 3 = .int .i64 k := congrFun hVAL 3
          have V4 : VAL 4 = .pointer (some ⟨b2, off2 + k * 2, none⟩) := congrFun hVAL 4
          have V5 : VAL 5 = .agg #[.float .f64 y0, .float .f64 y1] := congrFun hVAL 5
          have V6 : VAL 6 = .agg #[.float .f64 z0, .float .f64 z1] := congrFun hVAL 6
          have V7 : VAL 7 = .agg #[.float .f64 u, .float .f64 v9] := congrFun hVAL 7
          have V8 : VAL 8 = undef := congrFun hVAL 8
          refine region_rg9 (by kernel_rfl) (fun v => ⟨#[.slice (some ⟨b, off, none⟩) N cap, .slice (some ⟨b2, off2, none⟩) N bcap, undef, undef, .pointer (some ⟨w.heap.size, 0, none⟩), .int .i64 0, .pointer (some ⟨p, 0, none⟩), .int .i64 k, .pointer (some ⟨q, 0, none⟩), .bool false, .slice (some ⟨b, off, none⟩) N cap, .int .i64 N, .slice (some ⟨b2, off2, none⟩) N bcap, .int .i64 N, .bool false, undef, .bool false, .slice (some ⟨b, off, none⟩) N cap, .bool true, .bool false, .bool false, .slice (some ⟨b2, off2, none⟩) N bcap, .bool true, .bool false, .bool false, undef, .agg #[.float .f64 0, .float .f64 0], .slice (some ⟨b, off, none⟩) N cap, .int .i64 N, .int .i64 k, .bool true, .int .i64 k, .pointer (some ⟨b, off + k * 2, none⟩), .agg #[.float .f64 x0, .float .f64 x1], v 0, v 1, v 2, v 3, v 4, v 5, v 6, v 7, u42, undef], []⟩) (DtM w p q u v9 t0 t1 x0 x1) 8 VAL (fun j => match j with | 0 => u34 | 1 => u35 | 2 => u36 | 3 => u37 | 4 => u38 | 5 => u39 | 6 => u40 | _ => u41) rfl M0 ?_ ?_
          · intro L v w' i hL hS hi
            obtain ⟨h1, h2, h3⟩ := mem_ready hi
            have h1 : i < 9 := h1
            dsimp only
            have hno := off_not (by rw [hL]; exact h1) h2
            have hcs : i = 0 ∨ i = 1 ∨ i = 2 ∨ i = 3 ∨ i = 4 ∨ i = 5 ∨ i = 6 ∨ i = 7 ∨ i = 8 := by omega
            rcases hcs with rfl | rfl | rfl | rfl | rfl | rfl | rfl | rfl | rfl
            · have m := hS.n (fun g => hno (hS.dc 8 0 g (by kernel_rfl)))
              have q0 : w'.cell? ⟨p, 0, none⟩ = some (.float .f64 t0) := m.2.2.1.1
              have q1 : w'.cell? ⟨p, 1, none⟩ = some (.float .f64 t1) := m.2.2.1.2.1
              refine wpOp_of (fun K hK => ?_)
              unfold wpOp
              go_simp
              refine Or.inl ?_
              exact hK _ _ ⟨put9 v 0 (.agg #[.float .f64 t0, .float .f64 t1]), (by simp [put9]), hS.step hM hL hi (by decide) (Below.refl _ _) V0.symm⟩
            · have m := hS.n (fun g => hno (hS.dc 8 1 g (by kernel_rfl)))
              have q0 : w'.cell? ⟨q, 0, none⟩ = some (.float .f64 x0) := m.2.2.2.1
              have q1 : w'.cell? ⟨q, 1, none⟩ = some (.float .f64 x1) := m.2.2.2.2.1
              refine wpOp_of (fun K hK => ?_)
              unfold wpOp
              go_simp
              refine Or.inl ?_
              exact hK _ _ ⟨put9 v 1 (.agg #[.float .f64 x0, .float .f64 x1]), (by simp [put9]), hS.step hM hL hi (by decide) (Below.refl _ _) V1.symm⟩
            · refine wpOp_of (fun K hK => ?_)
              unfold wpOp
              go_simp
              refine Or.inl ?_
              exact hK _ _ ⟨put9 v 2 (.slice (some ⟨b2, off2, none⟩) N bcap), (by simp [put9]), hS.step hM hL hi (by decide) (Below.refl _ _) V2.symm⟩
            · refine wpOp_of (fun K hK => ?_)
              unfold wpOp
              go_simp
              refine Or.inl ?_
              exact hK _ _ ⟨put9 v 3 (.int .i64 k), (by simp [put9]), hS.step hM hL hi (by decide) (Below.refl _ _) V3.symm⟩
            · have e2 : v 2 = .slice (some ⟨b2, off2, none⟩) N bcap := (hS.d 2 (ready_dep hi 2 (by kernel_rfl))).trans V2
              have e3 : v 3 = .int .i64 k := (hS.d 3 (ready_dep hi 3 (by kernel_rfl))).trans V3
              refine wpOp_of (fun K hK => ?_)
              unfold wpOp
              simp only [e2, e3]
              go_simp
              refine Or.inl ?_
              exact hK _ _ ⟨put9 v 4 (.pointer (some ⟨b2, off2 + k * 2, none⟩)), (by simp [put9, e2, e3]), hS.step hM hL hi (by decide) (Below.refl _ _) V4.symm⟩
            · have e4 : v 4 = .pointer (some ⟨b2, off2 + k * 2, none⟩) := (hS.d 4 (ready_dep hi 4 (by kernel_rfl))).trans V4
              have m := hS.n (fun g => hno (hS.dc 8 5 g (by kernel_rfl)))
              have q0 := (m.1.cell (World.block_lt_of_cell? w _ dw1)).trans dw1
              have q1 := (m.1.cell (World.block_lt_of_cell? w _ dw2)).trans dw2
              refine wpOp_of (fun K hK => ?_)
              unfold wpOp
              simp only [e4]
              go_simp
              refine Or.inl ?_
              exact hK _ _ ⟨put9 v 5 (.agg #[.float .f64 y0, .float .f64 y1]), (by simp [put9, e4]), hS.step hM hL hi (by decide) (Below.refl _ _) V5.symm⟩
            · have e1 : v 1 = .agg #[.float .f64 x0, .float .f64 x1] := (hS.d 1 (ready_dep hi 1 (by kernel_rfl))).trans V1
              have e5 : v 5 = .agg #[.float .f64 y0, .float .f64 y1] := (hS.d 5 (ready_dep hi 5 (by kernel_rfl))).trans V5
              refine wpOp_of (fun K hK => ?_)
              unfold wpOp
              simp only [e1, e5]
              go_simp
              refine Or.inl ?_
              refine (cm _ (tabW_below hT (hS.n (fun g => hno (hS.dc 8 6 g (by kernel_rfl)))).1)).mono ?_
              rintro e w1 ⟨rfl, bc⟩
              exact hK _ _ ⟨put9 v 6 (.agg #[.float .f64 z0, .float .f64 z1]), (by simp [put9, e1, e5]), hS.step hM hL hi (by decide) bc V6.symm⟩
            · have e0 : v 0 = .agg #[.float .f64 t0, .float .f64 t1] := (hS.d 0 (ready_dep hi 0 (by kernel_rfl))).trans V0
              have e6 : v 6 = .agg #[.float .f64 z0, .float .f64 z1] := (hS.d 6 (ready_dep hi 6 (by kernel_rfl))).trans V6
              refine wpOp_of (fun K hK => ?_)
              unfold wpOp
              simp only [e0, e6]
              go_simp
              refine Or.inl ?_
              refine (cs _ (tabW_below hT (hS.n (fun g => hno (hS.dc 8 7 g (by kernel_rfl)))).1)).mono ?_
              rintro e w1 ⟨rfl, bc⟩
              exact hK _ _ ⟨put9 v 7 (.agg #[.float .f64 u, .float .f64 v9]), (by simp [put9, e0, e6]), hS.step hM hL hi (by decide) bc V7.symm⟩
            · have e7 : v 7 = .agg #[.float .f64 u, .float .f64 v9] := (hS.d 7 (ready_dep hi 7 (by kernel_rfl))).trans V7
              have m := hS.n hno
              obtain ⟨q0, q1, q2, q3, _⟩ : Bx w' p (.float .f64 t0) (.float .f64 t1) := m.2.2.1
              refine wpOp_of (fun K hK => ?_)
              unfold wpOp
              simp only [e7]
              go_simp
              refine Or.inl ?_
              exact hK _ _ ⟨put9 v 8 undef, (by simp [put9, e7]), hS.store hL hi (⟨set2 m.1 hp _ _, m.2.1.other np _ _, m.2.2.1.put _ _, m.2.2.2.other (Ne.symm nq) _ _⟩) V8.symm⟩
          · intro L v w' hL hS hr
            have on := all_done hL hr (by kernel_rfl)
            have m := hS.y (on 8 (by decide))
            rw [hS.d 0 (on 0 (by decide)), V0]
            rw [hS.d 1 (on 1 (by decide)), V1]
            rw [hS.d 2 (on 2 (by decide)), V2]
            rw [hS.d 3 (on 3 (by decide)), V3]
            rw [hS.d 4 (on 4 (by decide)), V4]
            rw [hS.d 5 (on 5 (by decide)), V5]
            rw [hS.d 6 (on 6 (by decide)), V6]
            rw [hS.d 7 (on 7 (by decide)), V7]
            clear hS on hr
            obtain ⟨Z5, R5, H5, X5⟩ := m
            go_wp2
            go_roundg (N - (k + 1))
            case measure => rw [HG.out]; omega
            case rel => exact ⟨k + 1, by omega, rfl, by go_num, Z5, R5, by rw [HS.out]; exact H5⟩
    · have hkN : k = N := by omega
      rw [hkN, HE.out] at Hr
      obtain ⟨c0, c1, f0, f1, _⟩ := Rr
      obtain ⟨d0, d1, _⟩ := Hr
      have i1 : ¬ (k : Int) < (N : Int) := by omega
      simp only at d0 d1
      clear hkN
      go_wp2
      exact bodyPost_ret (v := .tuple #[spV r0 r1, .int .i64 0]) (by simp [results, Tryd.results20, go_sem, c0, c1]) rfl ⟨rfl, set2 Zr (Nat.le_refl _) _ _⟩
end Go.Proofs.YtbhkgjjogepgnaaDoor

namespace Go.Proofs.YtbhkgjjogepgnaaDoor
open Go.RowKit

/-- A float, all NaN as one. -/
def toO (x : Nat) : Option Nat := if nanB x then none else some x
def opO (op : BinOp) (o p : Option Nat) : Option Nat := o.bind fun u => p.bind fun v => floatBits op .f64 u v
theorem toO_NR {x : Nat} (hx : x < 18446744073709551616) : NR (toO x) x := by
  cases h : nanB x
  · have e : toO x = some x := by unfold toO; rw [h]; rfl
    rw [e]; exact ⟨hx, rfl⟩
  · have e : toO x = none := by unfold toO; rw [h]; rfl
    rw [e]; exact ⟨hx, h⟩
theorem opO_NR {op : BinOp} (hop : FourOp op) {o p : Option Nat} {r s : Nat} (hr : NR o r) (hs : NR p s) (w : World) : NR (opO op o p) (opR op r s w) := by
  have h := op_NR (op := op) hop (a := r) (b := s) w
  cases o with
  | none =>
    rw [op_nan (op := op) hop hr.1 hs.1 (Or.inl hr.2)] at h
    exact h
  | some u =>
    cases p with
    | none =>
      rw [op_nan (op := op) hop hr.1 hs.1 (Or.inr hs.2)] at h
      exact h
    | some v =>
      have e1 : r = u := hr.2
      have e2 : s = v := hs.2
      subst e1 e2
      exact h
theorem NR_word {o : Option Nat} {r : Nat} (h : NR o r) : r < 18446744073709551616 := h.1
/-- In order. -/
def naiveO (l : List Nat) : Option Nat := l.foldl (fun o x => opO .add o (toO x)) (some 0)
theorem naive_snoc (l : List Nat) (x : Nat) : naiveO (l ++ [x]) = opO .add (naiveO l) (toO x) := by
  unfold naiveO
  rw [List.foldl_append]
  rfl
/-- Is the size of the first not less? (Of NaN it is not.) -/
def geO (o p : Option Nat) : Bool := match o, p with
  | some u, some v => FloatKind.f64.format.order (rung u) (rung v) == some .gt || FloatKind.f64.format.order (rung u) (rung v) == some .eq
  | _, _ => false
theorem geO_NR {o p : Option Nat} {r s : Nat} (hr : NR o r) (hs : NR p s) : (FloatKind.f64.format.order (rung r) (rung s) == some .gt || FloatKind.f64.format.order (rung r) (rung s) == some .eq) = geO o p := by
  have nanr : ∀ {x : Nat}, nanB x = true → nanB (rung x) = true := by
    intro x h
    unfold nanB at h ⊢
    rw [rung_small (rung_lt x)]
    exact h
  have lr := rung_lt r
  have ls := rung_lt s
  cases o with
  | none =>
    have h : nanB r = true := hr.2
    rw [ord_nan (by omega) (by omega) (Or.inl (nanr h))]
    rfl
  | some u =>
    cases p with
    | none =>
      have h : nanB s = true := hs.2
      rw [ord_nan (by omega) (by omega) (Or.inr (nanr h))]
      rfl
    | some v =>
      have e1 : r = u := hr.2
      have e2 : s = v := hs.2
      rw [e1, e2]
      rfl
/-- With what is lost kept: the sum, and what was lost. -/
def keptS (q : Option Nat × Option Nat) (x : Nat) : Option Nat × Option Nat :=
  let t := opO .add q.1 (toO x)
  (t, if geO q.1 (toO x) then opO .add q.2 (opO .add (opO .sub q.1 t) (toO x)) else opO .add q.2 (opO .add (opO .sub (toO x) t) q.1))
def keptP (l : List Nat) : Option Nat × Option Nat := l.foldl keptS (some 0, some 0)
def keptO (l : List Nat) : Option Nat := opO .add (keptP l).1 (keptP l).2
theorem kept_snoc (l : List Nat) (x : Nat) : keptP (l ++ [x]) = keptS (keptP l) x := by
  unfold keptP
  rw [List.foldl_append]
  rfl
/-- By halves. -/
def pairF : Nat → List Nat → Option Nat
  | 0, _ => some 0
  | _ + 1, [] => some 0
  | _ + 1, [x] => toO x
  | n + 1, l => opO .add (pairF n (l.take (l.length / 2))) (pairF n (l.drop (l.length / 2)))
end Go.Proofs.YtbhkgjjogepgnaaDoor

namespace Go.Proofs.YtbhkgjjogepgnaaDoor
open Go.RowKit

/-- Floats at an address. -/
def GRow (w : World) (ao : Option Addr) (xs : List Nat) : Prop := xs.length = 0 ∨ ∃ b off, ao = some ⟨b, off, none⟩ ∧ ∀ j, j < xs.length → w.cell? ⟨b, off + j, none⟩ = some (.float .f64 (xs.getD j 0))
theorem GRow.below {w w' : World} {ao : Option Addr} {xs : List Nat} (h : GRow w ao xs) (hb : Below w.heap.size w w') : GRow w' ao xs := by
  rcases h with h | ⟨b, off, rfl, hc⟩
  · exact Or.inl h
  · exact Or.inr ⟨b, off, rfl, fun j hj => by rw [hb.cell (World.block_lt_of_cell? w _ (hc j hj))]; exact hc j hj⟩
theorem getD_at {xs : List Nat} {k : Nat} (hk : k < xs.length) : xs.getD k 0 = xs[k] := by simp [List.getD, hk]
def FW (xs : List Nat) : Prop := ∀ x, x ∈ xs → x < 18446744073709551616
theorem FW.at {xs : List Nat} (h : FW xs) {k : Nat} (hk : k < xs.length) : xs.getD k 0 < 18446744073709551616 := by
  rw [getD_at hk]
  exact h _ (List.getElem_mem hk)
theorem take_at {xs : List Nat} {k : Nat} (hk : k < xs.length) : xs.take (k + 1) = xs.take k ++ [xs.getD k 0] := by
  rw [List.take_succ_eq_append_getElem hk, getD_at hk]
end Go.Proofs.YtbhkgjjogepgnaaDoor

namespace Go.Proofs.YtbhkgjjogepgnaaDoor
open Go.RowKit

/-- What stands in memory at the head of the loop. -/
structure SsS (w wr : World) (v : Nat → Value) (xs : Nat → List (Nat × Nat)) (gs gd : Nat) (S T : Dy) : Prop where
  ow : OwP w wr v xs
  s : ∃ ao cap, Hd wr gs S ao cap
  d : ∃ ao cap, Hd wr gd T ao cap
  fs : Fzr wr gs
  fd : Fzr wr gd
  ne : gs ≠ gd
  ls : w.heap.size ≤ gs
  ld : w.heap.size ≤ gd
  far : Far v gs
  fad : Far v gd
theorem SsS.later {w wr w1 : World} {v : Nat → Value} {xs : Nat → List (Nat × Nat)} {gs gd : Nat} {S T : Dy} (h : SsS w wr v xs gs gd S T) (hb : Below wr.heap.size wr w1) : SsS w w1 v xs gs gd S T := by
  obtain ⟨a, c, h1⟩ := h.s
  obtain ⟨a', c', h2⟩ := h.d
  exact ⟨h.ow.later hb, ⟨a, c, h1.below hb⟩, ⟨a', c', h2.below hb⟩, (h1.six h.fs hb).2, (h2.six h.fd hb).2, h.ne, h.ls, h.ld, h.far, h.fad⟩
theorem FS.at5 {ps : List (Nat × Nat)} (h : FS ps) {i : Nat} (hi : i < ps.length) : (ps.getD i (0, 0)).1 < 18446744073709551616 ∧ (ps.getD i (0, 0)).2 < 18446744073709551616 := by
  rw [sgetD_at hi]
  exact h _ (List.getElem_mem hi)
set_option maxRecDepth 100000 in
set_option maxHeartbeats 8000000 in
theorem sums_walk (ps qs : List (Nat × Nat)) (xs : List Nat) (ao bo xo : Option Addr) (ac bc xc : Nat) (w : World) (hT : TabW w) (ra : SRow w ao ps) (rb : SRow w bo qs) (rx : GRow w xo xs) (fa : FS ps) (fb : FS qs) (na : ps.length ≤ 1125899906842624) (nb : qs.length ≤ 1125899906842624) (nx : xs.length ≤ 1125899906842624) (fx : ∀ i, xs.getD i 0 < 18446744073709551616) :
    Calls Tryd.prog 4 #[.slice ao ps.length ac, .slice bo qs.length bc, .slice xo xs.length xc] w fun e w' => e = .returned (.bool true) ∧ Below w.heap.size w w' := by
  have hst := run_storef Tryd.prog
  obtain ⟨N, hN⟩ : ∃ N : Nat, (if (40 : Int) < (if qs.length < ps.length then (qs.length : Int) else (ps.length : Int)) then (40 : Int) else (if qs.length < ps.length then (qs.length : Int) else (ps.length : Int))) = (N : Int) := ⟨min (min ps.length qs.length) 40, by split <;> split <;> omega⟩
  have n1 : N ≤ ps.length := by revert hN; split <;> split <;> omega
  have n2 : N ≤ qs.length := by revert hN; split <;> split <;> omega
  have n3 : N ≤ 40 := by revert hN; split <;> split <;> omega
  go_enter Tryd.func4, Tryd.ntmps4
  go_upto_region 5 with (go_at_call 5; refine (sawake _).mono ?_; rintro e v9 ⟨rfl, bb⟩)
  have T5 := tabW_below hT bb
  have ra5 := ra.below bb
  have rb5 := rb.below bb
  have rx5 := rx.below bb
  clear ra rb rx hT
  go_upto_region 6 with fail
  have zS0 : Hd ((v9.alloc (.cells #[.bool false, .slice none 0 0, .int .i64 0] 38)).alloc (.cells #[.bool false, .slice none 0 0, .int .i64 0] 38)) v9.heap.size dy0 none 0 := (Hd.new (d := dy0) (Or.inl rfl)).below (sbal _ _)
  have zD0 : Hd ((v9.alloc (.cells #[.bool false, .slice none 0 0, .int .i64 0] 38)).alloc (.cells #[.bool false, .slice none 0 0, .int .i64 0] 38)) (v9.heap.size + 1) dy0 none 0 := by
    have h := Hd.new (w := v9.alloc (.cells #[.bool false, .slice none 0 0, .int .i64 0] 38)) (d := dy0) (ao := none) (cap := 0) (Or.inl rfl)
    have e : (v9.alloc (.cells #[.bool false, .slice none 0 0, .int .i64 0] 38)).heap.size = v9.heap.size + 1 := by simp
    rw [e] at h
    exact h
  have fS0 : Fzr ((v9.alloc (.cells #[.bool false, .slice none 0 0, .int .i64 0] 38)).alloc (.cells #[.bool false, .slice none 0 0, .int .i64 0] 38)) v9.heap.size := (fz_new v9 _ _ _).below (by simp) (sbal _ _)
  have fD0 : Fzr ((v9.alloc (.cells #[.bool false, .slice none 0 0, .int .i64 0] 38)).alloc (.cells #[.bool false, .slice none 0 0, .int .i64 0] 38)) (v9.heap.size + 1) := by
    have h := fz_new (v9.alloc (.cells #[.bool false, .slice none 0 0, .int .i64 0] 38)) (.bool false) (.slice none 0 0) (.int .i64 0)
    have e : (v9.alloc (.cells #[.bool false, .slice none 0 0, .int .i64 0] 38)).heap.size = v9.heap.size + 1 := by simp
    rw [e] at h
    exact h
  have B0 : Below v9.heap.size v9 ((v9.alloc (.cells #[.bool false, .slice none 0 0, .int .i64 0] 38)).alloc (.cells #[.bool false, .slice none 0 0, .int .i64 0] 38)) := ((Below.refl _ _).alloc (Nat.le_refl _) _).alloc (by simp) _
  have ST : Hid (SsS v9 ((v9.alloc (.cells #[.bool false, .slice none 0 0, .int .i64 0] 38)).alloc (.cells #[.bool false, .slice none 0 0, .int .i64 0] 38)) (fun _ => .slice none 0 0) (fun _ => []) v9.heap.size (v9.heap.size + 1) dy0 dy0) := (show SsS _ _ _ _ _ _ _ _ from ⟨OwP.start B0, ⟨none, 0, zS0⟩, ⟨none, 0, zD0⟩, fS0, fD0, by omega, Nat.le_refl _, by omega, fun i a e => by simp [Value.ownBlock] at e, fun i a e => by simp [Value.ownBlock] at e⟩)
  have FZ : Fd dy0 0 := fd_dz (X := 0) (by decide)
  obtain ⟨gd, hgd⟩ : ∃ n, v9.heap.size + 1 = n := ⟨_, rfl⟩
  obtain ⟨gs, hgs⟩ : ∃ n, v9.heap.size = n := ⟨_, rfl⟩
  rw [hgd, hgs] at ST ⊢
  clear zS0 zD0 fS0 fD0 B0 hN
  generalize (v9.alloc (.cells #[.bool false, .slice none 0 0, .int .i64 0] 38)).alloc (.cells #[.bool false, .slice none 0 0, .int .i64 0] 38) = w6 at *
  go_wp2
  go_loopg [8, 9, 12] N (fun g s8 s9 s12 wr => ∃ (i : Nat) (v : Nat → Value) (ls : Nat → List (Nat × Nat)) (X Y : Int) (S T : Dy), i ≤ N ∧ g = N - i ∧ s8 = v 0 ∧ s9 = v 1 ∧ s12 = .int .i64 i ∧ Hid (SsS v9 wr v ls gs gd S T) ∧ Hid (SsI (ls 0) (ls 1) X Y i) ∧ Hid (Fd S X ∧ Fd T Y))
  case atStart => exact ⟨0, fun _ => .slice none 0 0, fun _ => [], 0, 0, dy0, dy0, by omega, rfl, rfl, rfl, rfl, ST, (show SsI _ _ _ _ _ from SsI.start), (show _ ∧ _ from ⟨FZ, FZ⟩)⟩
  case round =>
    obtain ⟨i, v, ls, X, Y, S, T, hi1, hg, rfl, rfl, rfl, hO, hI, hF⟩ := hrel
    have HG : Hid (gk = N - i) := hg
    clear hg ST
    by_cases hlt : i < N
    · have i1 : (i : Int) < (N : Int) := by omega
      have O := hO.out
      rcases ra5 with h | ⟨ab, aoff, rfl, hca⟩
      · omega
      rcases rb5 with h | ⟨bbk, boff, rfl, hcb⟩
      · omega
      have hrx := rx5.below O.ow.below
      obtain ⟨gv1, gv2⟩ := hca i (by omega)
      obtain ⟨dv1, dv2⟩ := hcb i (by omega)
      obtain ⟨fa1, fa2⟩ := FS.at5 fa (show i < ps.length by omega)
      obtain ⟨fb1, fb2⟩ := FS.at5 fb (show i < qs.length by omega)
      have ka : (i : Int) < (ps.length : Int) := by omega
      have kb : (i : Int) < (qs.length : Int) := by omega
      generalize ps.getD i (0, 0) = a at *
      generalize qs.getD i (0, 0) = b at *
      obtain ⟨a0, a1⟩ := a
      obtain ⟨b0, b1⟩ := b
      simp only at gv1 gv2 dv1 dv2 fa1 fa2 fb1 fb2
      have g1 := (O.ow.below.cell (World.block_lt_of_cell? _ _ gv1)).trans gv1
      have g2 := (O.ow.below.cell (World.block_lt_of_cell? _ _ gv2)).trans gv2
      have d1 := (O.ow.below.cell (World.block_lt_of_cell? _ _ dv1)).trans dv1
      have d2 := (O.ow.below.cell (World.block_lt_of_cell? _ _ dv2)).trans dv2
      have cRa := fun w => sright_any a0 a1 w
      have cRb := fun w => sright_any b0 b1 w
      clear hca hcb
      have Tr := tabW_below T5 O.ow.below
      cases q1 : sRt a0 a1 <;> rw [q1] at cRa
      · go_wp2_with (go_at_call 14; refine (cRa _).mono ?_; rintro e v1 ⟨rfl, bA⟩)
        go_roundg (N - (i + 1))
        case measure => rw [HG.out]; omega
        case rel => exact ⟨i + 1, v, ls, X, Y, S, T, by omega, rfl, rfl, rfl, by go_num, (show SsS _ _ _ _ _ _ _ _ from O.later bA), (show SsI _ _ _ _ _ from hI.out.skip), hF⟩
      cases q2 : sRt b0 b1 <;> rw [q2] at cRb
      · go_wp2_with (first
          | (go_at_call_of 14 (Value.agg #[Value.float FloatKind.f64 b0, Value.float FloatKind.f64 b1]); refine (cRb _).mono ?_; rintro e v2 ⟨rfl, bC⟩; have bA := bA.trans (bC.mono bA.size))
          | (go_at_call_of 14 (Value.agg #[Value.float FloatKind.f64 a0, Value.float FloatKind.f64 a1]); refine (cRa _).mono ?_; rintro e v1 ⟨rfl, bA⟩; have d1 := (bA.cell (World.block_lt_of_cell? _ _ d1)).trans d1; have d2 := (bA.cell (World.block_lt_of_cell? _ _ d2)).trans d2))
        go_roundg (N - (i + 1))
        case measure => rw [HG.out]; omega
        case rel => exact ⟨i + 1, v, ls, X, Y, S, T, by omega, rfl, rfl, rfl, by go_num, (show SsS _ _ _ _ _ _ _ _ from O.later bA), (show SsI _ _ _ _ _ from hI.out.skip), hF⟩
      have RA : RtP (a0, a1) := ⟨fa1, fa2, q1⟩
      have RB : RtP (b0, b1) := ⟨fb1, fb2, q2⟩
      go_upto_if 56 with (first
          | (go_at_call_of 14 (Value.agg #[Value.float FloatKind.f64 b0, Value.float FloatKind.f64 b1]); refine (cRb _).mono ?_; rintro e v2 ⟨rfl, bC⟩; have bA := bA.trans (bC.mono bA.size))
          | (go_at_call_of 14 (Value.agg #[Value.float FloatKind.f64 a0, Value.float FloatKind.f64 a1]); refine (cRa _).mono ?_; rintro e v1 ⟨rfl, bA⟩; have d1 := (bA.cell (World.block_lt_of_cell? _ _ d1)).trans d1; have d2 := (bA.cell (World.block_lt_of_cell? _ _ d2)).trans d2))
      have O1 := O.later bA
      have T1 := tabW_below Tr bA
      replace hrx := hrx.below bA
      replace g1 := (bA.cell (World.block_lt_of_cell? _ _ g1)).trans g1
      replace g2 := (bA.cell (World.block_lt_of_cell? _ _ g2)).trans g2
      replace d1 := (bC.cell (World.block_lt_of_cell? _ _ d1)).trans d1
      replace d2 := (bC.cell (World.block_lt_of_cell? _ _ d2)).trans d2
      clear O hO bA bC q1 q2 cRa cRb Tr
      generalize v2 = wc at *
      go_cut [13] from 54 to 122 (fun s wx => ∃ x, s = .float .f64 x ∧ x < 18446744073709551616 ∧ wx = wc)
      case first =>
        by_cases h0 : xs.length = 0
        · have k1 : ¬ (0 : Int) < (xs.length : Int) := by omega
          clear h0
          go_wp2
          go_meet
          exact ⟨0, rfl, by omega, rfl⟩
        · rcases hrx with h | ⟨xb, xoff, rfl, hcx⟩
          · exact absurd h h0
          · obtain ⟨q, hq⟩ : ∃ q, i % xs.length = q := ⟨_, rfl⟩
            have hq1 : q < xs.length := by rw [← hq]; exact Nat.mod_lt _ (by omega)
            have e2 : (i : Int) % (xs.length : Int) = (q : Int) := by rw [← hq]; simp
            have e3 : (i : Int).tmod (xs.length : Int) = (q : Int) := by rw [Int.tmod_eq_emod_of_nonneg (by omega)]; exact e2
            have k1 : (0 : Int) < (xs.length : Int) := by omega
            have k2 : (q : Int) < (xs.length : Int) := by omega
            have k3 : ¬ (xs.length : Int) = 0 := by omega
            have k4 : 0 < xs.length := by omega
            have gq := hcx q hq1
            have fq := fx q
            clear hcx hq
            generalize xs.getD q 0 = x at *
            go_wp2
            go_meet
            exact ⟨x, rfl, fq, rfl⟩
      case rest =>
        obtain ⟨x, rfl, hx, rfl⟩ := hcut
        obtain ⟨px, Op, cI1⟩ := inside_C RA x hx
        obtain ⟨py, Oq, cI2⟩ := inside_C RB (negW x) (negW_lt hx)
        obtain ⟨DP, eDP, FDP⟩ := fd_of Op.2.1
        obtain ⟨DQ, eDQ, FDQ⟩ := fd_of Oq.2.1
        have cn1 := fun w h => number_any px DP Op.1.1 eDP w h
        have cn2 := fun w h => number_any py DQ Oq.1.1 eDQ w h
        simp only at cI1 cI2
        go_upto_region 13 with fail
        obtain ⟨VAL, hVAL⟩ : ∃ V : Nat → Value, V = (fun j => match j with | 0 => Value.slice (some ⟨ab, aoff, none⟩) ps.length ac | 1 => .int .i64 i | 2 => .pointer (some ⟨ab, aoff + i * 2, none⟩) | 3 => .agg #[.float .f64 a0, .float .f64 a1] | 4 => .float .f64 x | 5 => .float .f64 px | 7 => Value.slice (some ⟨bbk, boff, none⟩) qs.length bc | 8 => .int .i64 i | 9 => .pointer (some ⟨bbk, boff + i * 2, none⟩) | 10 => .agg #[.float .f64 b0, .float .f64 b1] | 11 => .float .f64 x | 12 => .float .f64 (negW x) | 13 => .float .f64 py | _ => undef) := ⟨_, rfl⟩
        have V0 : VAL 0 = Value.slice (some ⟨ab, aoff, none⟩) ps.length ac := congrFun hVAL 0
        have V1 : VAL 1 = .int .i64 i := congrFun hVAL 1
        have V2 : VAL 2 = .pointer (some ⟨ab, aoff + i * 2, none⟩) := congrFun hVAL 2
        have V3 : VAL 3 = .agg #[.float .f64 a0, .float .f64 a1] := congrFun hVAL 3
        have V4 : VAL 4 = .float .f64 x := congrFun hVAL 4
        have V5 : VAL 5 = .float .f64 px := congrFun hVAL 5
        have V7 : VAL 7 = Value.slice (some ⟨bbk, boff, none⟩) qs.length bc := congrFun hVAL 7
        have V8 : VAL 8 = .int .i64 i := congrFun hVAL 8
        have V9 : VAL 9 = .pointer (some ⟨bbk, boff + i * 2, none⟩) := congrFun hVAL 9
        have V10 : VAL 10 = .agg #[.float .f64 b0, .float .f64 b1] := congrFun hVAL 10
        have V11 : VAL 11 = .float .f64 x := congrFun hVAL 11
        have V12 : VAL 12 = .float .f64 (negW x) := congrFun hVAL 12
        have V13 : VAL 13 = .float .f64 py := congrFun hVAL 13
        have V17 : VAL 17 = undef := congrFun hVAL 17
        have V18 : VAL 18 = undef := congrFun hVAL 18
        refine region_rgE (by kernel_rfl) (fun z => ⟨#[Value.slice (some ⟨ab, aoff, none⟩) ps.length ac, Value.slice (some ⟨bbk, boff, none⟩) qs.length bc, .slice xo xs.length xc, undef, undef, undef, u6, .int .i64 N, v 0, v 1, .pointer (some ⟨gs, 0, none⟩), .pointer (some ⟨gd, 0, none⟩), .int .i64 i, .float .f64 x, z 15, z 16, u16, u17, u18, u19, u20, u21, undef, undef, undef, undef, .bool true, .bool false, Value.slice (some ⟨ab, aoff, none⟩) ps.length ac, .int .i64 ps.length, Value.slice (some ⟨bbk, boff, none⟩) qs.length bc, .int .i64 qs.length, .int .i64 N, .agg #[.bool false, .slice none 0 0, .int .i64 0], .agg #[.bool false, .slice none 0 0, .int .i64 0], .int .i64 i, .int .i64 N, .bool true, u38, u39, Value.slice (some ⟨ab, aoff, none⟩) ps.length ac, .int .i64 i, .pointer (some ⟨ab, aoff + i * 2, none⟩), .agg #[.float .f64 a0, .float .f64 a1], .bool true, .bool false, .bool false, Value.slice (some ⟨bbk, boff, none⟩) qs.length bc, .int .i64 i, .pointer (some ⟨bbk, boff + i * 2, none⟩), .agg #[.float .f64 b0, .float .f64 b1], .bool true, .bool false, .bool false, u54, u55, u56, u57, u58, u59, u60, u61, u62, u63, z 0, z 1, z 2, z 3, z 4, z 5, z 6, z 7, z 8, z 9, z 10, z 11, z 12, z 13, z 14, u79, u80, u81, u82, u83, u84, u85, u86, u87, u88, u89, u90, u91, u92, u93, u94, u95, u96, u97, u98, u99, u100, u101, u102, u103, u104, u105, u106, u107, u108, u109, u110, u111, u112, u113, u114, u115, u116, u117, u118, u119, u120, u121, u122, undef, undef, undef, undef, undef, undef, undef, undef, undef, undef, undef, undef, undef, undef, undef, undef, undef, undef, undef, undef, undef, undef, undef, undef, undef, undef, undef], []⟩) 2 (fun k => 15 + k) (fun k => 17 + k) (fun k => if k = 0 then DP else DQ) (fun j => match j with | 6 => some (DP, false) | 14 => some (DQ, false) | _ => none) VAL (fun j => match j with | 0 => u64 | 1 => u65 | 2 => u66 | 3 => u67 | 4 => u68 | 5 => u69 | 6 => u70 | 7 => u71 | 8 => u72 | 9 => u73 | 10 => u74 | 11 => u75 | 12 => u76 | 13 => u77 | 14 => u78 | 15 => u14 | 16 => u15 | _ => undef) rfl ?_ ?_
        · intro L z g w' k hL hS hi
          obtain ⟨h1, h2, h3⟩ := mem_ready hi
          have h1 : k < 19 := h1
          try dsimp only
          have hno := off_not (by rw [hL]; exact h1) h2
          have m := hS.m
          have hcs : k = 0 ∨ k = 1 ∨ k = 2 ∨ k = 3 ∨ k = 4 ∨ k = 5 ∨ k = 6 ∨ k = 7 ∨ k = 8 ∨ k = 9 ∨ k = 10 ∨ k = 11 ∨ k = 12 ∨ k = 13 ∨ k = 14 ∨ k = 15 ∨ k = 16 ∨ k = 17 ∨ k = 18 := by omega
          rcases hcs with rfl | rfl | rfl | rfl | rfl | rfl | rfl | rfl | rfl | rfl | rfl | rfl | rfl | rfl | rfl | rfl | rfl | rfl | rfl
          · refine wpOp_of (fun K hK => ?_)
            unfold wpOp
            go_simp
            refine Or.inl ?_
            exact hK _ _ ⟨put9 z 0 (Value.slice (some ⟨ab, aoff, none⟩) ps.length ac), g, (by simp [put9]), hS.step hL hi rfl (fun b hb => by rcases (show b = 0 ∨ b = 1 by omega) with rfl | rfl <;> decide) (fun b hb => by rcases (show b = 0 ∨ b = 1 by omega) with rfl | rfl <;> decide) (Below.refl _ _) V0.symm⟩
          · refine wpOp_of (fun K hK => ?_)
            unfold wpOp
            go_simp
            refine Or.inl ?_
            exact hK _ _ ⟨put9 z 1 (.int .i64 i), g, (by simp [put9]), hS.step hL hi rfl (fun b hb => by rcases (show b = 0 ∨ b = 1 by omega) with rfl | rfl <;> decide) (fun b hb => by rcases (show b = 0 ∨ b = 1 by omega) with rfl | rfl <;> decide) (Below.refl _ _) V1.symm⟩
          · have e0 : z 0 = Value.slice (some ⟨ab, aoff, none⟩) ps.length ac := (hS.d 0 rfl (fun b hb => by rcases (show b = 0 ∨ b = 1 by omega) with rfl | rfl <;> decide) (ready_dep hi 0 (by kernel_rfl))).trans V0
            have e1 : z 1 = .int .i64 i := (hS.d 1 rfl (fun b hb => by rcases (show b = 0 ∨ b = 1 by omega) with rfl | rfl <;> decide) (ready_dep hi 1 (by kernel_rfl))).trans V1
            refine wpOp_of (fun K hK => ?_)
            unfold wpOp
            simp only [e0, e1]
            go_simp
            refine Or.inl ?_
            exact hK _ _ ⟨put9 z 2 (.pointer (some ⟨ab, aoff + i * 2, none⟩)), g, (by simp [put9, e0, e1]), hS.step hL hi rfl (fun b hb => by rcases (show b = 0 ∨ b = 1 by omega) with rfl | rfl <;> decide) (fun b hb => by rcases (show b = 0 ∨ b = 1 by omega) with rfl | rfl <;> decide) (Below.refl _ _) V2.symm⟩
          · have e2 : z 2 = .pointer (some ⟨ab, aoff + i * 2, none⟩) := (hS.d 2 rfl (fun b hb => by rcases (show b = 0 ∨ b = 1 by omega) with rfl | rfl <;> decide) (ready_dep hi 2 (by kernel_rfl))).trans V2
            have q0 := (m.cell (World.block_lt_of_cell? _ _ g1)).trans g1
            have q1 := (m.cell (World.block_lt_of_cell? _ _ g2)).trans g2
            refine wpOp_of (fun K hK => ?_)
            unfold wpOp
            simp only [e2]
            go_simp
            refine Or.inl ?_
            exact hK _ _ ⟨put9 z 3 (.agg #[.float .f64 a0, .float .f64 a1]), g, (by simp [put9, e2]), hS.step hL hi rfl (fun b hb => by rcases (show b = 0 ∨ b = 1 by omega) with rfl | rfl <;> decide) (fun b hb => by rcases (show b = 0 ∨ b = 1 by omega) with rfl | rfl <;> decide) (Below.refl _ _) V3.symm⟩
          · refine wpOp_of (fun K hK => ?_)
            unfold wpOp
            go_simp
            refine Or.inl ?_
            exact hK _ _ ⟨put9 z 4 (.float .f64 x), g, (by simp [put9]), hS.step hL hi rfl (fun b hb => by rcases (show b = 0 ∨ b = 1 by omega) with rfl | rfl <;> decide) (fun b hb => by rcases (show b = 0 ∨ b = 1 by omega) with rfl | rfl <;> decide) (Below.refl _ _) V4.symm⟩
          · have e3 : z 3 = .agg #[.float .f64 a0, .float .f64 a1] := (hS.d 3 rfl (fun b hb => by rcases (show b = 0 ∨ b = 1 by omega) with rfl | rfl <;> decide) (ready_dep hi 3 (by kernel_rfl))).trans V3
            have e4 : z 4 = .float .f64 x := (hS.d 4 rfl (fun b hb => by rcases (show b = 0 ∨ b = 1 by omega) with rfl | rfl <;> decide) (ready_dep hi 4 (by kernel_rfl))).trans V4
            refine wpOp_of (fun K hK => ?_)
            unfold wpOp
            simp only [e3, e4]
            go_simp
            refine Or.inl ?_
            refine (cI1 _).mono ?_
            rintro e w1 ⟨rfl, bn⟩
            exact hK _ _ ⟨put9 z 5 (.float .f64 px), g, (by simp [put9, e3, e4]), hS.step hL hi rfl (fun b hb => by rcases (show b = 0 ∨ b = 1 by omega) with rfl | rfl <;> decide) (fun b hb => by rcases (show b = 0 ∨ b = 1 by omega) with rfl | rfl <;> decide) bn V5.symm⟩
          · have e5 : z 5 = .float .f64 px := (hS.d 5 rfl (fun b hb => by rcases (show b = 0 ∨ b = 1 by omega) with rfl | rfl <;> decide) (ready_dep hi 5 (by kernel_rfl))).trans V5
            refine wpOp_of (fun K hK => ?_)
            unfold wpOp
            simp only [e5]
            go_simp
            refine Or.inl ?_
            refine (cn1 _ (tabW_below T1 m)).mono ?_
            rintro e w1 ⟨an, nc, rfl, rn, fn, bn⟩
            exact hK _ _ ⟨put9 z 6 (dyU DP an nc false), g, (by simp [put9, dyU, e5]), hS.stepD hL hi rfl (fun b hb => by rcases (show b = 0 ∨ b = 1 by omega) with rfl | rfl <;> decide) (fun b hb => by rcases (show b = 0 ∨ b = 1 by omega) with rfl | rfl <;> decide) bn rn fn⟩
          · refine wpOp_of (fun K hK => ?_)
            unfold wpOp
            go_simp
            refine Or.inl ?_
            exact hK _ _ ⟨put9 z 7 (Value.slice (some ⟨bbk, boff, none⟩) qs.length bc), g, (by simp [put9]), hS.step hL hi rfl (fun b hb => by rcases (show b = 0 ∨ b = 1 by omega) with rfl | rfl <;> decide) (fun b hb => by rcases (show b = 0 ∨ b = 1 by omega) with rfl | rfl <;> decide) (Below.refl _ _) V7.symm⟩
          · refine wpOp_of (fun K hK => ?_)
            unfold wpOp
            go_simp
            refine Or.inl ?_
            exact hK _ _ ⟨put9 z 8 (.int .i64 i), g, (by simp [put9]), hS.step hL hi rfl (fun b hb => by rcases (show b = 0 ∨ b = 1 by omega) with rfl | rfl <;> decide) (fun b hb => by rcases (show b = 0 ∨ b = 1 by omega) with rfl | rfl <;> decide) (Below.refl _ _) V8.symm⟩
          · have e7 : z 7 = Value.slice (some ⟨bbk, boff, none⟩) qs.length bc := (hS.d 7 rfl (fun b hb => by rcases (show b = 0 ∨ b = 1 by omega) with rfl | rfl <;> decide) (ready_dep hi 7 (by kernel_rfl))).trans V7
            have e8 : z 8 = .int .i64 i := (hS.d 8 rfl (fun b hb => by rcases (show b = 0 ∨ b = 1 by omega) with rfl | rfl <;> decide) (ready_dep hi 8 (by kernel_rfl))).trans V8
            refine wpOp_of (fun K hK => ?_)
            unfold wpOp
            simp only [e7, e8]
            go_simp
            refine Or.inl ?_
            exact hK _ _ ⟨put9 z 9 (.pointer (some ⟨bbk, boff + i * 2, none⟩)), g, (by simp [put9, e7, e8]), hS.step hL hi rfl (fun b hb => by rcases (show b = 0 ∨ b = 1 by omega) with rfl | rfl <;> decide) (fun b hb => by rcases (show b = 0 ∨ b = 1 by omega) with rfl | rfl <;> decide) (Below.refl _ _) V9.symm⟩
          · have e9 : z 9 = .pointer (some ⟨bbk, boff + i * 2, none⟩) := (hS.d 9 rfl (fun b hb => by rcases (show b = 0 ∨ b = 1 by omega) with rfl | rfl <;> decide) (ready_dep hi 9 (by kernel_rfl))).trans V9
            have q0 := (m.cell (World.block_lt_of_cell? _ _ d1)).trans d1
            have q1 := (m.cell (World.block_lt_of_cell? _ _ d2)).trans d2
            refine wpOp_of (fun K hK => ?_)
            unfold wpOp
            simp only [e9]
            go_simp
            refine Or.inl ?_
            exact hK _ _ ⟨put9 z 10 (.agg #[.float .f64 b0, .float .f64 b1]), g, (by simp [put9, e9]), hS.step hL hi rfl (fun b hb => by rcases (show b = 0 ∨ b = 1 by omega) with rfl | rfl <;> decide) (fun b hb => by rcases (show b = 0 ∨ b = 1 by omega) with rfl | rfl <;> decide) (Below.refl _ _) V10.symm⟩
          · refine wpOp_of (fun K hK => ?_)
            unfold wpOp
            go_simp
            refine Or.inl ?_
            exact hK _ _ ⟨put9 z 11 (.float .f64 x), g, (by simp [put9]), hS.step hL hi rfl (fun b hb => by rcases (show b = 0 ∨ b = 1 by omega) with rfl | rfl <;> decide) (fun b hb => by rcases (show b = 0 ∨ b = 1 by omega) with rfl | rfl <;> decide) (Below.refl _ _) V11.symm⟩
          · have e11 : z 11 = .float .f64 x := (hS.d 11 rfl (fun b hb => by rcases (show b = 0 ∨ b = 1 by omega) with rfl | rfl <;> decide) (ready_dep hi 11 (by kernel_rfl))).trans V11
            have hu := run_negf x
            refine wpOp_of (fun K hK => ?_)
            unfold wpOp
            simp only [e11]
            go_simp
            refine Or.inl ?_
            exact hK _ _ ⟨put9 z 12 (.float .f64 (negW x)), g, (by simp [put9, e11]), hS.step hL hi rfl (fun b hb => by rcases (show b = 0 ∨ b = 1 by omega) with rfl | rfl <;> decide) (fun b hb => by rcases (show b = 0 ∨ b = 1 by omega) with rfl | rfl <;> decide) (Below.refl _ _) V12.symm⟩
          · have e10 : z 10 = .agg #[.float .f64 b0, .float .f64 b1] := (hS.d 10 rfl (fun b hb => by rcases (show b = 0 ∨ b = 1 by omega) with rfl | rfl <;> decide) (ready_dep hi 10 (by kernel_rfl))).trans V10
            have e12 : z 12 = .float .f64 (negW x) := (hS.d 12 rfl (fun b hb => by rcases (show b = 0 ∨ b = 1 by omega) with rfl | rfl <;> decide) (ready_dep hi 12 (by kernel_rfl))).trans V12
            refine wpOp_of (fun K hK => ?_)
            unfold wpOp
            simp only [e10, e12]
            go_simp
            refine Or.inl ?_
            refine (cI2 _).mono ?_
            rintro e w1 ⟨rfl, bn⟩
            exact hK _ _ ⟨put9 z 13 (.float .f64 py), g, (by simp [put9, e10, e12]), hS.step hL hi rfl (fun b hb => by rcases (show b = 0 ∨ b = 1 by omega) with rfl | rfl <;> decide) (fun b hb => by rcases (show b = 0 ∨ b = 1 by omega) with rfl | rfl <;> decide) bn V13.symm⟩
          · have e13 : z 13 = .float .f64 py := (hS.d 13 rfl (fun b hb => by rcases (show b = 0 ∨ b = 1 by omega) with rfl | rfl <;> decide) (ready_dep hi 13 (by kernel_rfl))).trans V13
            refine wpOp_of (fun K hK => ?_)
            unfold wpOp
            simp only [e13]
            go_simp
            refine Or.inl ?_
            refine (cn2 _ (tabW_below T1 m)).mono ?_
            rintro e w1 ⟨an, nc, rfl, rn, fn, bn⟩
            exact hK _ _ ⟨put9 z 14 (dyU DQ an nc false), g, (by simp [put9, dyU, e13]), hS.stepD hL hi rfl (fun b hb => by rcases (show b = 0 ∨ b = 1 by omega) with rfl | rfl <;> decide) (fun b hb => by rcases (show b = 0 ∨ b = 1 by omega) with rfl | rfl <;> decide) bn rn fn⟩
          · refine wpOp_of (fun K hK => ?_)
            unfold wpOp
            go_simp
            refine Or.inl ?_
            exact hK _ _ ⟨put9 z 15 (.pointer (some ⟨w'.heap.size, 0, none⟩)), _, (by simp [put9]), hS.make (b := 0) hL (by decide) hi hno rfl (fun c hc hne => by rcases (show c = 0 ∨ c = 1 by omega) with rfl | rfl <;> first | exact absurd rfl hne | decide) (fun c hc => by rcases (show c = 0 ∨ c = 1 by omega) with rfl | rfl <;> decide) (by kernel_rfl)⟩
          · refine wpOp_of (fun K hK => ?_)
            unfold wpOp
            go_simp
            refine Or.inl ?_
            exact hK _ _ ⟨put9 z 16 (.pointer (some ⟨w'.heap.size, 0, none⟩)), _, (by simp [put9]), hS.make (b := 1) hL (by decide) hi hno rfl (fun c hc hne => by rcases (show c = 0 ∨ c = 1 by omega) with rfl | rfl <;> first | exact absurd rfl hne | decide) (fun c hc => by rcases (show c = 0 ∨ c = 1 by omega) with rfl | rfl <;> decide) (by kernel_rfl)⟩
          · obtain ⟨a6, c6, E6, R6, F6, N6⟩ := hS.r 6 DP false rfl (ready_dep hi 6 (by kernel_rfl))
            have e6 : z 6 = .agg #[.bool DP.neg, .slice a6 DP.mag.length c6, .int .i64 DP.exp] := E6
            have e15 : z 15 = .pointer (some ⟨g 0, 0, none⟩) := (hS.p 0 (by decide) (ready_dep hi 15 (by kernel_rfl))).1
            obtain ⟨hz, f0, f1, f2⟩ := hS.z 0 (by decide) (ready_dep hi 15 (by kernel_rfl)) hno
            have q0 := hz.c0
            have q1 := hz.c1
            have q2 := hz.c2
            refine wpOp_of (fun K hK => ?_)
            unfold wpOp
            simp only [e6, e15]
            go_simp
            refine Or.inl ?_
            exact hK _ _ ⟨put9 z 17 undef, g, (by simp [put9, e6, e15]), hS.store (b := 0) (cap := c6) hL (by decide) hi hno rfl (fun c hc => by rcases (show c = 0 ∨ c = 1 by omega) with rfl | rfl <;> decide) (fun c hc hne => by rcases (show c = 0 ∨ c = 1 by omega) with rfl | rfl <;> first | exact absurd rfl hne | decide) (fun c hc => by rcases (show c = 0 ∨ c = 1 by omega) with rfl | rfl <;> kernel_rfl) R6 F6 N6 V17.symm⟩
          · obtain ⟨a14, c14, E14, R14, F14, N14⟩ := hS.r 14 DQ false rfl (ready_dep hi 14 (by kernel_rfl))
            have e14 : z 14 = .agg #[.bool DQ.neg, .slice a14 DQ.mag.length c14, .int .i64 DQ.exp] := E14
            have e16 : z 16 = .pointer (some ⟨g 1, 0, none⟩) := (hS.p 1 (by decide) (ready_dep hi 16 (by kernel_rfl))).1
            obtain ⟨hz, f0, f1, f2⟩ := hS.z 1 (by decide) (ready_dep hi 16 (by kernel_rfl)) hno
            have q0 := hz.c0
            have q1 := hz.c1
            have q2 := hz.c2
            refine wpOp_of (fun K hK => ?_)
            unfold wpOp
            simp only [e14, e16]
            go_simp
            refine Or.inl ?_
            exact hK _ _ ⟨put9 z 18 undef, g, (by simp [put9, e14, e16]), hS.store (b := 1) (cap := c14) hL (by decide) hi hno rfl (fun c hc => by rcases (show c = 0 ∨ c = 1 by omega) with rfl | rfl <;> decide) (fun c hc hne => by rcases (show c = 0 ∨ c = 1 by omega) with rfl | rfl <;> first | exact absurd rfl hne | decide) (fun c hc => by rcases (show c = 0 ∨ c = 1 by omega) with rfl | rfl <;> kernel_rfl) R14 F14 N14 V18.symm⟩
        · intro L z g w' hL hS hr3
          have on := all_done hL hr3 (by kernel_rfl)
          have m := hS.m
          obtain ⟨pa, pc, HP, FP, -⟩ := hS.y 0 (by decide) (on 17 (by decide))
          obtain ⟨qa, qc, HQ, FQ, -⟩ := hS.y 1 (by decide) (on 18 (by decide))
          have eP : z 15 = .pointer (some ⟨g 0, 0, none⟩) := (hS.p 0 (by decide) (on 15 (by decide))).1
          have eQ : z 16 = .pointer (some ⟨g 1, 0, none⟩) := (hS.p 1 (by decide) (on 16 (by decide))).1
          have HP : Hd w' (g 0) DP pa pc := HP
          have HQ : Hd w' (g 1) DQ qa qc := HQ
          try dsimp only
          rw [eP, eQ]
          rw [hS.d 0 rfl (fun b hb => by rcases (show b = 0 ∨ b = 1 by omega) with rfl | rfl <;> decide) (on 0 (by decide)), V0]
          rw [hS.d 1 rfl (fun b hb => by rcases (show b = 0 ∨ b = 1 by omega) with rfl | rfl <;> decide) (on 1 (by decide)), V1]
          rw [hS.d 2 rfl (fun b hb => by rcases (show b = 0 ∨ b = 1 by omega) with rfl | rfl <;> decide) (on 2 (by decide)), V2]
          rw [hS.d 3 rfl (fun b hb => by rcases (show b = 0 ∨ b = 1 by omega) with rfl | rfl <;> decide) (on 3 (by decide)), V3]
          rw [hS.d 4 rfl (fun b hb => by rcases (show b = 0 ∨ b = 1 by omega) with rfl | rfl <;> decide) (on 4 (by decide)), V4]
          rw [hS.d 5 rfl (fun b hb => by rcases (show b = 0 ∨ b = 1 by omega) with rfl | rfl <;> decide) (on 5 (by decide)), V5]
          rw [hS.d 7 rfl (fun b hb => by rcases (show b = 0 ∨ b = 1 by omega) with rfl | rfl <;> decide) (on 7 (by decide)), V7]
          rw [hS.d 8 rfl (fun b hb => by rcases (show b = 0 ∨ b = 1 by omega) with rfl | rfl <;> decide) (on 8 (by decide)), V8]
          rw [hS.d 9 rfl (fun b hb => by rcases (show b = 0 ∨ b = 1 by omega) with rfl | rfl <;> decide) (on 9 (by decide)), V9]
          rw [hS.d 10 rfl (fun b hb => by rcases (show b = 0 ∨ b = 1 by omega) with rfl | rfl <;> decide) (on 10 (by decide)), V10]
          rw [hS.d 11 rfl (fun b hb => by rcases (show b = 0 ∨ b = 1 by omega) with rfl | rfl <;> decide) (on 11 (by decide)), V11]
          rw [hS.d 12 rfl (fun b hb => by rcases (show b = 0 ∨ b = 1 by omega) with rfl | rfl <;> decide) (on 12 (by decide)), V12]
          rw [hS.d 13 rfl (fun b hb => by rcases (show b = 0 ∨ b = 1 by omega) with rfl | rfl <;> decide) (on 13 (by decide)), V13]
          generalize z 6 = t6 at *
          generalize z 14 = t14 at *
          clear hS on hr3 eP eQ hVAL V0 V1 V2 V3 V4 V5 V7 V8 V9 V10 V11 V12 V13 V17 V18
          generalize g 0 = gp at *
          generalize g 1 = gq at *
          clear g z VAL L hL
          have hbp : bl (vI px * vI py).natAbs ≤ 16384 := bl_sm (n := ssP + 1) (Nat.lt_of_le_of_lt (num_bd Op.2.1 Oq.2.1).2 (Nat.pow_lt_pow_right (by omega) (by omega))) (by have k5 : ssP = 5000 := rfl; omega)
          have hI2 := hI.out.keep RA RB Op Oq
          obtain ⟨hb1, hb2⟩ := hI2.bl (by omega)
          have eM := fd_mul FDP FDQ hbp
          have FM := fd_dz hbp
          have eS := fd_add hF.out.1 FDP hb1
          have eD := fd_add hF.out.2 FM hb2
          have FS' := fd_dz hb1
          have FD' := fd_dz hb2
          have cM := fun ao bo cap bcap w h1 h2 h3 => mul_any DP DQ ao bo cap bcap w h1 h2 FDP.2.1 FDQ.2.1 h3
          have cS := fun ao bo cap bcap w h1 h2 h3 => Add_any S DP ao bo cap bcap w h1 h2 hF.out.1.2.1 FDP.2.1 h3
          rw [eM] at cM
          rw [eS] at cS
          have cD := fun ao bo cap bcap w h1 h2 h3 => Add_any T (dz (vI px * vI py)) ao bo cap bcap w h1 h2 hF.out.2.2.1 FM.2.1 h3
          rw [eD] at cD
          have HI3 : Hid (SsI (ls 0 ++ [(a0, a1)]) (ls 1 ++ [(b0, b1)]) (X + vI px * 2 ^ twP) (Y + vI px * vI py) (i + 1)) := hI2
          have HF3 : Hid (Fd (dz (X + vI px * 2 ^ twP)) (X + vI px * 2 ^ twP) ∧ Fd (dz (Y + vI px * vI py)) (Y + vI px * vI py)) := (show _ ∧ _ from ⟨FS', FD'⟩)
          clear hI2 hbp hb1 hb2 eM eS eD FM FS' FD' FDP FDQ eDP eDQ cn1 cn2 cI1 cI2 RA RB Op Oq
          generalize dz (X + vI px * 2 ^ twP) = S' at *
          generalize dz (Y + vI px * vI py) = T' at *
          generalize dz (vI px * vI py) = P' at *
          generalize X + vI px * 2 ^ twP = X' at *
          generalize Y + vI px * vI py = Y' at *
          have lt0 := fun k a e => ((O1.ow.own k).lt a e).2
          have O2 := O1.later m
          have T2 := tabW_below T1 m
          obtain ⟨N0, hN0⟩ : ∃ n, wc.heap.size = n := ⟨_, rfl⟩
          have lN := m.size
          have lgs : gs < wc.heap.size := by obtain ⟨_, _, h⟩ := O1.s; exact World.block_lt_of_cell? _ _ h.c0
          have lgd : gd < wc.heap.size := by obtain ⟨_, _, h⟩ := O1.d; exact World.block_lt_of_cell? _ _ h.c0
          rw [hN0] at lN lt0 lgs lgd
          clear O1 T1 hN0 m g1 g2 d1 d2 FP FQ
          obtain ⟨so, sc, HS⟩ := O2.s
          obtain ⟨tq, tc, HT⟩ := O2.d
          have pc0 := HP.c0
          have pc1 := HP.c1
          have pc2 := HP.c2
          have qc0 := HQ.c0
          have qc1 := HQ.c1
          have qc2 := HQ.c2
          go_upto_region 15 with (go_at_call 17; refine (cM _ _ _ _ _ HP.row HQ.row T2).mono ?_; rintro e vk ⟨oP', nP', rfl, rr, frP', bb5⟩)
          clear pc0 pc1 pc2 qc0 qc1 qc2
          have bk := bb5.alloc bb5.size (.cells #[.bool P'.neg, .slice oP' P'.mag.length nP', .int .i64 P'.exp] 38)
          have HP' : Hd (vk.alloc (.cells #[.bool P'.neg, .slice oP' P'.mag.length nP', .int .i64 P'.exp] 38)) vk.heap.size P' oP' nP' := Hd.new (d := P') (cap := nP') rr
          have lP' : N0 ≤ vk.heap.size := Nat.le_trans lN bb5.size
          replace frP' := frP'.mono lN
          replace HS := HS.below bk
          replace HT := HT.below bk
          replace HP := HP.below bk
          replace O2 := O2.later bk
          replace T2 := tabW_below T2 bk
          replace lN := Nat.le_trans lN bk.size
          clear bb5 rr bk
          generalize vk.alloc (.cells #[.bool P'.neg, .slice oP' P'.mag.length nP', .int .i64 P'.exp] 38) = w7 at *
          generalize vk.heap.size = gP' at *
          clear vk
          have sc0 := HS.c0
          have sc1 := HS.c1
          have sc2 := HS.c2
          have pc0 := HP.c0
          have pc1 := HP.c1
          have pc2 := HP.c2
          go_upto_region 16 with (go_at_call 18; refine (cS _ _ _ _ _ HS.row HP.row T2).mono ?_; rintro e vk ⟨oS', nS', rfl, rr, frS', bb5⟩)
          clear sc0 sc1 sc2 pc0 pc1 pc2
          have bk := bb5.alloc bb5.size (.cells #[.bool S'.neg, .slice oS' S'.mag.length nS', .int .i64 S'.exp] 38)
          have HS' : Hd (vk.alloc (.cells #[.bool S'.neg, .slice oS' S'.mag.length nS', .int .i64 S'.exp] 38)) vk.heap.size S' oS' nS' := Hd.new (d := S') (cap := nS') rr
          have lS' : N0 ≤ vk.heap.size := Nat.le_trans lN bb5.size
          replace frS' := frS'.mono lN
          replace HS := HS.below bk
          replace HT := HT.below bk
          replace HP' := HP'.below bk
          replace O2 := O2.later bk
          replace T2 := tabW_below T2 bk
          replace lN := Nat.le_trans lN bk.size
          clear bb5 rr bk
          generalize vk.alloc (.cells #[.bool S'.neg, .slice oS' S'.mag.length nS', .int .i64 S'.exp] 38) = w8 at *
          generalize vk.heap.size = gS' at *
          clear vk
          have tc0 := HT.c0
          have tc1 := HT.c1
          have tc2 := HT.c2
          have rc0 := HP'.c0
          have rc1 := HP'.c1
          have rc2 := HP'.c2
          go_upto_region 17 with (go_at_call 18; refine (cD _ _ _ _ _ HT.row HP'.row T2).mono ?_; rintro e vk ⟨oT', nT', rfl, rr, frT', bb5⟩)
          clear tc0 tc1 tc2 rc0 rc1 rc2
          have bk := bb5.alloc bb5.size (.cells #[.bool T'.neg, .slice oT' T'.mag.length nT', .int .i64 T'.exp] 38)
          have HT' : Hd (vk.alloc (.cells #[.bool T'.neg, .slice oT' T'.mag.length nT', .int .i64 T'.exp] 38)) vk.heap.size T' oT' nT' := Hd.new (d := T') (cap := nT') rr
          have lT' : N0 ≤ vk.heap.size := Nat.le_trans lN bb5.size
          replace frT' := frT'.mono lN
          replace HS := HS.below bk
          replace HT := HT.below bk
          replace HS' := HS'.below bk
          replace O2 := O2.later bk
          replace T2 := tabW_below T2 bk
          replace lN := Nat.le_trans lN bk.size
          clear bb5 rr bk
          generalize vk.alloc (.cells #[.bool T'.neg, .slice oT' T'.mag.length nT', .int .i64 T'.exp] 38) = w9 at *
          generalize vk.heap.size = gT' at *
          clear vk
          obtain ⟨u1, x1, v1, l1, q1, hg1, P1, e1, e1', f1, f1', ho1⟩ := app_span O2.ow 0 (a0, a1) (by have := hI.out.le; omega)
          obtain ⟨u2, x2, v2, l2, q2, hg2, P2, e2, e2', f2, f2', ho2⟩ := app_span P1 1 (b0, b1) (by rw [f1' 1 (by decide)]; have := hI.out.le; have := hI.out.len; omega)
          rw [e1' 1 (by decide)] at q2 hg2 ho2
          simp only at q1 q2 hg1 hg2 ho1 ho2
          have G1 := (O2.ow.below.cell (World.block_lt_of_cell? _ _ gv1)).trans gv1
          have G2 := (O2.ow.below.cell (World.block_lt_of_cell? _ _ gv2)).trans gv2
          have D1 := (P1.below.cell (World.block_lt_of_cell? _ _ dv1)).trans dv1
          have D2 := (P1.below.cell (World.block_lt_of_cell? _ _ dv2)).trans dv2
          have z1 : 0 < w9.heap.size := by have := World.block_lt_of_cell? _ _ HS.c0; omega
          have oS : ∀ b off, oS' = some ⟨b, off, none⟩ → N0 ≤ b := fun b off e => frS' _ e
          have oT : ∀ b off, oT' = some ⟨b, off, none⟩ → N0 ≤ b := fun b off e => frT' _ e
          have b0S : gS' < w9.heap.size := World.block_lt_of_cell? _ _ HS'.c0
          have b0T : gT' < w9.heap.size := World.block_lt_of_cell? _ _ HT'.c0
          have bgS : gs < w9.heap.size := World.block_lt_of_cell? _ _ HS.c0
          have bgT : gd < w9.heap.size := World.block_lt_of_cell? _ _ HT.c0
          have lv0 := lt0 0
          have lv1 := lt0 1
          have A1 : (w9.alloc (.cells #[.float .f64 a0, .float .f64 a1] 24)).heap.size = w9.heap.size + 1 := by simp
          have sz1 := hg1.size
          have A2 : (x1.alloc (.cells #[.float .f64 b0, .float .f64 b1] 24)).heap.size = x1.heap.size + 1 := by simp
          rw [A1] at sz1 ho1
          rw [A2] at ho2
          -- the boxes behind both appends
          have KS := ((HS'.below (sbal w9 (.cells #[.float .f64 a0, .float .f64 a1] 24))).app hg1 (fun a e => by have := lv0 a e; omega) (fun b off eb h0 a e => by have := lv0 a e; have := oS b off eb; omega))
          have KT := ((HT'.below (sbal w9 (.cells #[.float .f64 a0, .float .f64 a1] 24))).app hg1 (fun a e => by have := lv0 a e; omega) (fun b off eb h0 a e => by have := lv0 a e; have := oT b off eb; omega))
          replace KS := ((KS.below (sbal x1 (.cells #[.float .f64 b0, .float .f64 b1] 24))).app hg2 (fun a e => by have := lv1 a e; omega) (fun b off eb h0 a e => by have := lv1 a e; have := oS b off eb; omega))
          replace KT := ((KT.below (sbal x1 (.cells #[.float .f64 b0, .float .f64 b1] 24))).app hg2 (fun a e => by have := lv1 a e; omega) (fun b off eb h0 a e => by have := lv1 a e; have := oT b off eb; omega))
          have CS : Cl3 w9 gs _ _ _ := ⟨HS.c0, HS.c1, HS.c2⟩
          have CT : Cl3 w9 gd _ _ _ := ⟨HT.c0, HT.c1, HT.c2⟩
          replace CS := ((((CS.below (sbal w9 (.cells #[.float .f64 a0, .float .f64 a1] 24))).app hg1 (O2.far 0)).below (sbal x1 (.cells #[.float .f64 b0, .float .f64 b1] 24))).app hg2 (O2.far 1))
          replace CT := ((((CT.below (sbal w9 (.cells #[.float .f64 a0, .float .f64 a1] 24))).app hg1 (O2.fad 0)).below (sbal x1 (.cells #[.float .f64 b0, .float .f64 b1] 24))).app hg2 (O2.fad 1))
          have ZS : Fzr x2 gs := Fzr.app hg2 ((Fzr.app hg1 (O2.fs.below bgS (sbal w9 (.cells #[.float .f64 a0, .float .f64 a1] 24))) (by rw [A1]; omega) (O2.far 0)).below (by omega) (sbal x1 (.cells #[.float .f64 b0, .float .f64 b1] 24))) (by rw [A2]; omega) (O2.far 1)
          have ZT : Fzr x2 gd := Fzr.app hg2 ((Fzr.app hg1 (O2.fd.below bgT (sbal w9 (.cells #[.float .f64 a0, .float .f64 a1] 24))) (by rw [A1]; omega) (O2.fad 0)).below (by omega) (sbal x1 (.cells #[.float .f64 b0, .float .f64 b1] 24))) (by rw [A2]; omega) (O2.fad 1)
          obtain ⟨J1, J2, J3, J4⟩ := fill_two (c := nS') (d := nT') CS CT O2.ne ZS ZT KS.row KT.row (fun k off e _ => by have := oS k off e; omega) (fun k off e _ => by have := oT k off e; omega)
          have ho1' : (v1 0).ownBlock = (v 0).ownBlock ∨ (v1 0).ownBlock = some (w9.heap.size + 1) := by rw [e1]; exact ho1
          have ho2' : (v2 1).ownBlock = (v1 1).ownBlock ∨ (v2 1).ownBlock = some (x1.heap.size + 1) := by rw [e2, e1' 1 (by decide)]; exact ho2
          have far1 : Far v2 gs := (O2.far.next e1' ho1' (by omega)).next e2' ho2' (by omega)
          have far2 : Far v2 gd := (O2.fad.next e1' ho1' (by omega)).next e2' ho2' (by omega)
          have P3 := (P2.set3 far1 O2.ls (.bool S'.neg) (.slice oS' S'.mag.length nS') (.int .i64 S'.exp)).set3 far2 O2.ld (.bool T'.neg) (.slice oT' T'.mag.length nT') (.int .i64 T'.exp)
          have HN : Hid (SsS v9 _ v2 l2 gs gd S' T') := (show SsS _ _ _ _ _ _ _ _ from ⟨P3, ⟨_, _, J1⟩, ⟨_, _, J2⟩, J3, J4, O2.ne, O2.ls, O2.ld, far1, far2⟩)
          have L0 : l2 0 = ls 0 ++ [(a0, a1)] := by rw [f2' 0 (by decide), f1]
          have L1 : l2 1 = ls 1 ++ [(b0, b1)] := by rw [f2, f1' 1 (by decide)]
          rw [← L0, ← L1] at HI3
          have E0 : v2 0 = u1 := by rw [e2' 0 (by decide), e1]
          have hne5 := O2.ne
          clear J1 J2 J3 J4 P1 P2 P3 HS HT HS' HT' HP' far1 far2 f1 f1' f2 f2' ho1 ho2 ho1' ho2' L0 L1 e1 e1' e2' hg1 hg2 A1 A2 O2 lt0 lv0 lv1 oS oT cM cS cD
          obtain ⟨sc0, sc1, sc2⟩ := CS
          obtain ⟨tc0, tc1, tc2⟩ := CT
          obtain ⟨zs0, zs1, zs2⟩ := ZS
          obtain ⟨zt0, zt1, zt2⟩ := ZT
          have ks0 := KS.c0
          have ks1 := KS.c1
          have ks2 := KS.c2
          have kt0 := KT.c0
          have kt1 := KT.c1
          have kt2 := KT.c2
          clear KS KT
          go_upto_region 21 with (first
            | (at_builtin; refine append5_eq q1 rfl _ _ rfl rfl rfl rfl ?_)
            | (at_builtin; refine append5_eq q2 rfl _ _ rfl rfl rfl rfl ?_))
          have m1 : gs ≠ gS' := by omega
          have m2 : gs ≠ gT' := by omega
          have m3 : gS' ≠ gs := by omega
          have m4 : gT' ≠ gs := by omega
          have m5 : gd ≠ gs := Ne.symm hne5
          clear G1 G2 D1 D2 q1 q2
          go_region
          all_goals
            go_wp2
            go_roundg (N - (i + 1))
            case measure => rw [HG.out]; omega
            case rel =>
              refine ⟨i + 1, v2, l2, X', Y', S', T', by omega, rfl, E0.symm, e2.symm, by go_num, ?_, HI3, HF3⟩
              exact (show SsS _ _ _ _ _ _ _ _ from HN.out.later (Below.refl _ _).drew)
    · have ei : i = N := by omega
      have O := hO.out
      have I1 : ¬ (i : Int) < (N : Int) := by omega
      obtain ⟨po, pc, ep, rp⟩ := O.ow.row 0
      obtain ⟨qo, qc, eq5, rq⟩ := O.ow.row 1
      obtain ⟨s1, s2, s3, s4⟩ := hI.out.said
      have Tr := tabW_below T5 O.ow.below
      have cA := fun w h1 h2 => ssumP_any (ls 0) po pc w h1 h2 hI.out.fp (by have := hI.out.le; omega)
      have cB := fun w h1 h2 h3 => sdotP_yes (ls 0) (ls 1) po qo pc qc w h1 h2 h3 hI.out.fp hI.out.fq (by have := hI.out.le; omega) hI.out.len hI.out.rp hI.out.rq
      rw [s1] at cA
      have cH1 := fun ao cap w h1 h2 => holds_C s3 hF.out.1 hI.out.hx ao cap w h1 h2
      have cH2 := fun ao cap w h1 h2 => holds_C s4 hF.out.2 hI.out.hy ao cap w h1 h2
      obtain ⟨so, sc, HS⟩ := O.s
      obtain ⟨tq, tc, HT⟩ := O.d
      have eL := hI.out.len
      rw [← eL] at cB eq5
      generalize (ls 0).length = n0 at *
      generalize hss : smP (ls 0) = ss at *
      generalize dtP (ls 0) (ls 1) n0 = dd at *
      obtain ⟨s0, s1'⟩ := ss
      obtain ⟨d0, d1'⟩ := dd
      simp only at cA cB cH1 cH2
      have Z0 := bb.trans (O.ow.below.mono bb.size)
      clear hO O hF hI ra5 rb5 rx5 FZ s2 s3 s4 ei
      rw [ep, eq5]
      clear eL hss s1 ep eq5
      go_upto_region 23 with (go_at_call 19; refine (cA _ Tr rp).mono ?_; rintro e y1 ⟨rfl, c1⟩)
      have K1 := Bx.new y1 (.float .f64 s0) (.float .f64 s1') 24
      have k1 := c1.alloc c1.size (.cells #[.float .f64 s0, .float .f64 s1'] 24)
      replace HS := HS.below k1
      replace HT := HT.below k1
      replace Tr := tabW_below Tr k1
      replace rp := rp.below k1
      replace rq := rq.below k1
      replace Z0 := Z0.trans (k1.mono Z0.size)
      clear c1 k1 cA
      generalize y1.alloc (.cells #[.float .f64 s0, .float .f64 s1'] 24) = y2 at *
      generalize y1.heap.size = gA at *
      go_upto_region 24 with (go_at_call 20; refine (cB _ Tr rp rq).mono ?_; rintro e y3 ⟨rfl, c1⟩)
      have K2 := Bx.new y3 (.float .f64 d0) (.float .f64 d1') 24
      have k1 := c1.alloc c1.size (.cells #[.float .f64 d0, .float .f64 d1'] 24)
      replace K1 := (K1.below c1).alloc (.cells #[.float .f64 d0, .float .f64 d1'] 24)
      replace HS := HS.below k1
      replace HT := HT.below k1
      replace Tr := tabW_below Tr k1
      replace Z0 := Z0.trans (k1.mono Z0.size)
      clear c1 k1 cB rp rq
      generalize y3.alloc (.cells #[.float .f64 d0, .float .f64 d1'] 24) = y4 at *
      generalize y3.heap.size = gB at *
      have sc0 := K1.1
      have sc1 := K1.2.1
      have h0 := HS.c0
      have h1 := HS.c1
      have h2 := HS.c2
      go_wp2_with (first
        | (go_at_call_of 21 (Value.agg #[Value.float FloatKind.f64 d0, Value.float FloatKind.f64 d1']); refine (cH2 _ _ _ (tabW_below Tr c1) (HT.below c1).row).mono ?_; rintro e y6 ⟨rfl, c2⟩; have c3 := c1.trans (c2.mono c1.size))
        | (go_at_call_of 21 (Value.agg #[Value.float FloatKind.f64 s0, Value.float FloatKind.f64 s1']); refine (cH1 _ _ _ Tr HS.row).mono ?_; rintro e y5 ⟨rfl, c1⟩; have dc0 := (K2.below c1).1; have dc1 := (K2.below c1).2.1; have t0 := (HT.below c1).c0; have t1 := (HT.below c1).c1; have t2 := (HT.below c1).c2))
      go_ret
      exact ⟨rfl, Z0.trans (c3.mono Z0.size)⟩
end Go.Proofs.YtbhkgjjogepgnaaDoor
