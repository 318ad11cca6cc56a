/- What Mul and Apply of the document answer, right or not. -/
import Derived.Test.YtmbcmhncicbbjaaGreatDoorMx7
import Derived.Deep.RegionHeld3
import Derived.Test.YtmbcmhncicbbjaaGreatDoorXm4
import Derived.Test.YtmbcmhncicbbjaaGreatDoorA1
namespace Go.Proofs.YtmbcmhncicbbjaaGreatDoor
open Go.RowKit

set_option maxHeartbeats 400000 in
theorem rmay_any (n : Int) (w : World) : Calls Tryz.prog 85 #[.int .i64 n] w fun e w' => e = .returned (.bool (okN n)) ∧ w' = w := by
  unfold okN
  by_cases h1 : 0 ≤ n
  · rw [decide_eq_true h1]
    by_cases h2 : n ≤ 48
    · rw [decide_eq_true h2]
      go_enter Tryz.func85, Tryz.ntmps85
      go_wp2
      go_ret
      exact ⟨rfl, rfl⟩
    · rw [decide_eq_false h2]
      go_enter Tryz.func85, Tryz.ntmps85
      go_wp2
      go_ret
      exact ⟨rfl, rfl⟩
  · rw [decide_eq_false h1]
    go_enter Tryz.func85, Tryz.ntmps85
    go_wp2
    go_ret
    exact ⟨rfl, rfl⟩
set_option maxHeartbeats 1000000 in
theorem rright_any (r c : Int) (ao : Option Addr) (n cap : Nat) (w : World) :
    Calls Tryz.prog 51 #[mxV r c ao n cap] w fun e w' => e = .returned (.bool (rightM r c n)) ∧ Below w.heap.size w w' := by
  have hb : ∀ o, Below w.heap.size w (w.alloc o) := fun o => below_one w o
  have co := rmay_any
  cases q1 : okN r
  · have HE : Hid (rightM r c n = false) := (show rightM r c n = false by unfold rightM; rw [q1]; rfl)
    have c1 := fun w => co r w
    rw [q1] at c1
    clear q1 co
    go_enter Tryz.func51, Tryz.ntmps51
    go_wp2_with (go_at_call 85; refine (c1 _).mono ?_; rintro e w' ⟨rfl, h'⟩; subst w')
    go_ret
    exact ⟨end_bool HE.out.symm, hb _⟩
  · cases q2 : okN c
    · have HE : Hid (rightM r c n = false) := (show rightM r c n = false by unfold rightM; rw [q1, q2]; rfl)
      have c1 := fun w => co r w
      have c2 := fun w => co c w
      rw [q1] at c1
      rw [q2] at c2
      clear q1 q2 co
      go_enter Tryz.func51, Tryz.ntmps51
      go_wp2_with (first | (go_at_call_of 85 (Value.int IntKind.i64 r); refine (c1 _).mono ?_; rintro e w' ⟨rfl, h'⟩; subst w') | (go_at_call_of 85 (Value.int IntKind.i64 c); refine (c2 _).mono ?_; rintro e w' ⟨rfl, h'⟩; subst w'))
      go_ret
      exact ⟨end_bool HE.out.symm, hb _⟩
    · have c1 := fun w => co r w
      have c2 := fun w => co c w
      rw [q1] at c1
      rw [q2] at c2
      obtain ⟨R, rfl, hR⟩ := okN_nat q1
      obtain ⟨C, rfl, hC⟩ := okN_nat q2
      obtain ⟨p, hp⟩ : ∃ p, R * C = p := ⟨_, rfl⟩
      have hpb : p ≤ 2304 := by rw [← hp]; exact mul48 hR hC
      have eM : (R : Int) * (C : Int) = (p : Int) := by rw [mulI, hp]
      have e1 : rightM R C n = decide (n = p) := by
        unfold rightM
        rw [q1, q2, eM]
        by_cases h : n = p
        · subst h; simp
        · rw [decide_eq_false h, decide_eq_false (by omega)]; rfl
      rw [e1]
      clear e1 q1 q2 co hp hR hC
      by_cases h : n = p
      · rw [decide_eq_true h]
        have b1 : ((n : Int) == (p : Int)) = true := by simp [h]
        clear h
        go_enter Tryz.func51, Tryz.ntmps51
        go_wp2_with (first | (go_at_call_of 85 (Value.int IntKind.i64 (R : Int)); refine (c1 _).mono ?_; rintro e w' ⟨rfl, h'⟩; subst w') | (go_at_call_of 85 (Value.int IntKind.i64 (C : Int)); refine (c2 _).mono ?_; rintro e w' ⟨rfl, h'⟩; subst w'))
        go_ret
        exact ⟨rfl, hb _⟩
      · rw [decide_eq_false h]
        have b1 : ((n : Int) == (p : Int)) = false := by simp; omega
        clear h
        go_enter Tryz.func51, Tryz.ntmps51
        go_wp2_with (first | (go_at_call_of 85 (Value.int IntKind.i64 (R : Int)); refine (c1 _).mono ?_; rintro e w' ⟨rfl, h'⟩; subst w') | (go_at_call_of 85 (Value.int IntKind.i64 (C : Int)); refine (c2 _).mono ?_; rintro e w' ⟨rfl, h'⟩; subst w'))
        go_ret
        exact ⟨rfl, hb _⟩
/-- What stands in memory while the document fills a matrix: the answer's box, the matrix's box, its row. -/
structure OutS (w wr : World) (S M g R C N : Nat) (f : Nat → Nat) : Prop where
  res : B3 wr S (.int .i64 0) (.int .i64 0) (.slice none 0 0)
  mbox : B3 wr M (.int .i64 R) (.int .i64 C) (.slice (some ⟨g, 0, none⟩) N N)
  row : RRow wr g N f
  lo : w.heap.size ≤ S ∧ S < g ∧ g < M ∧ g < wr.heap.size
  below : Below w.heap.size w wr
theorem OutS.drew {w wr : World} {S M g R C N : Nat} {f : Nat → Nat} (h : OutS w wr S M g R C N f) : OutS w wr.drew S M g R C N f := ⟨h.res.drew, h.mbox.drew, h.row, h.lo, h.below.drew⟩
theorem OutS.later {w wr w1 : World} {S M g R C N : Nat} {f : Nat → Nat} (h : OutS w wr S M g R C N f) (hb : Below wr.heap.size wr w1) : OutS w w1 S M g R C N f :=
  ⟨h.res.below hb, h.mbox.below hb, h.row.below hb h.lo.2.2.2, ⟨h.lo.1, h.lo.2.1, h.lo.2.2.1, Nat.lt_of_lt_of_le h.lo.2.2.2 hb.size⟩, h.below.trans (hb.mono h.below.size)⟩
theorem OutS.set {w wr : World} {S M g R C N : Nat} {f : Nat → Nat} (h : OutS w wr S M g R C N f) (q r : Nat) : OutS w (wr.setCell ⟨g, q, none⟩ (.float .f64 r)) S M g R C N (fun p => if p = q then r else f p) := by
  have := h.lo
  exact ⟨h.res.far (by omega) _, h.mbox.far (by omega) _, h.row.set q r, ⟨this.1, this.2.1, this.2.2.1, by simp [World.setCell]; exact this.2.2.2⟩, h.below.setCell (by show w.heap.size ≤ g; omega) _⟩
theorem OutS.fin {w wr : World} {S M g R C N : Nat} {f : Nat → Nat} (h : OutS w wr S M g R C N f) {x y z : Value} : RRow (((wr.setCell ⟨S, 0, none⟩ x).setCell ⟨S, 1, none⟩ y).setCell ⟨S, 2, none⟩ z) g N f ∧ Below w.heap.size w (((wr.setCell ⟨S, 0, none⟩ x).setCell ⟨S, 1, none⟩ y).setCell ⟨S, 2, none⟩ z) := by
  have := h.lo
  refine ⟨?_, set_three h.below (by omega) _ _ _⟩
  have n1 : g ≠ S := by omega
  exact World.rowIs.setOther (World.rowIs.setOther (World.rowIs.setOther h.row (by exact n1) _) (by exact n1) _) (by exact n1) _
/-- The answer, once all is filled. -/
theorem OutS.gave {w wr : World} {S M g R C N : Nat} {f : Nat → Nat} {o : Nat → Nat → Option Nat} (h : OutS w wr S M g R C N f) (hN : R * C = N) (hv : ∀ p, p < N → NR (o (p / C) (p % C)) (f p)) (x y z : Value) : GaveF w (tabM R C o) (.slice (some ⟨g, 0, none⟩) N N) (((wr.setCell ⟨S, 0, none⟩ x).setCell ⟨S, 1, none⟩ y).setCell ⟨S, 2, none⟩ z) := by
  have := h.lo
  unfold tabM
  rw [hN]
  exact ⟨some ⟨g, 0, none⟩, N, toL' N f, by rw [toL'_len], LN_tab (toL'_len _ _) (fun i hi => by rw [toL'_at hi]; exact hv i hi), (h.fin).1.grow (toL'_len _ _) (fun j hj => toL'_at hj), by rw [toL'_len]; exact Nat.le_refl _, fun a e => by cases e; show w.heap.size ≤ g; omega, (h.fin).2⟩
end Go.Proofs.YtmbcmhncicbbjaaGreatDoor

namespace Go.Proofs.YtmbcmhncicbbjaaGreatDoor
open Go.RowKit

end Go.Proofs.YtmbcmhncicbbjaaGreatDoor

namespace Go.Proofs.YtmbcmhncicbbjaaGreatDoor
open Go.RowKit

/-- No NaN but as none. -/
def PO (o : Option Nat) : Prop := ∀ v, o = some v → nanB v = false
theorem PO_toO (x : Nat) : PO (toO x) := fun v h => by
  unfold toO at h
  split at h
  · cases h
  · cases h; rename_i h; simpa using h
theorem PO_op {op : BinOp} (hop : FourOp op) (o p : Option Nat) : PO (opO op o p) := fun v h => by
  cases o with
  | none => cases h
  | some a =>
    cases p with
    | none => cases h
    | some b => exact rung_nan (op_word hop (show floatBits op .f64 a b = some v from h)).2
theorem PO_zero : PO (some 0) := fun v h => by cases h; decide
theorem PO_mu (C D : Nat) (xs ys : List Nat) (i j k : Nat) : PO (muO C D xs ys i j k) := by
  cases k with
  | zero => exact PO_zero
  | succ k => exact PO_op (Or.inl rfl) _ _
theorem NR_PO {o : Option Nat} {r : Nat} (h : NR o r) (hp : PO o) : toO r = o := by
  cases o with
  | none =>
    have : nanB r = true := h.2
    unfold toO; rw [this]; rfl
  | some v =>
    have e : r = v := h.2
    unfold toO
    rw [e, hp v rfl]
    rfl
theorem tabM_at {R C : Nat} {o : Nat → Nat → Option Nat} {i j : Nat} (hi : i < R) (hj : j < C) : (tabM R C o).getD (i * C + j) none = o i j := by
  unfold tabM
  rw [tab_at (at_lt hi hj), (at_div hj).1, (at_div hj).2]
/-- What was told of an entry is that entry. -/
theorem en_of {R C : Nat} {o : Nat → Nat → Option Nat} {ps : List Nat} (h : LN (tabM R C o) ps) {i j : Nat} (hp : PO (o i j)) (hi : i < R) (hj : j < C) : enO C ps i j = o i j := by
  have := h.2 (i * C + j) (by rw [tabM_len]; exact at_lt hi hj)
  rw [tabM_at hi hj] at this
  exact NR_PO this hp
theorem div_lt' {R C p : Nat} (h : p < R * C) : p / C < R ∧ p % C < C := by
  have hC : 0 < C := Nat.pos_of_ne_zero (fun e => by subst e; simp at h)
  exact ⟨Nat.div_lt_of_lt_mul (by rw [Nat.mul_comm]; exact h), Nat.mod_lt _ hC⟩
theorem tabM_congr {R C : Nat} {o p : Nat → Nat → Option Nat} (h : ∀ i j, i < R → j < C → o i j = p i j) : tabM R C o = tabM R C p := by
  unfold tabM tab
  apply List.map_congr_left
  intro a ha
  have := div_lt' (List.mem_range.1 ha)
  exact h _ _ this.1 this.2
theorem LN_self {R C : Nat} {xs : List Nat} (hF : FW xs) (hl : xs.length = R * C) : LN (tabM R C (enO C xs)) xs := by
  refine ⟨by rw [tabM_len]; exact hl, fun i hi => ?_⟩
  rw [tabM_len] at hi
  unfold tabM
  rw [tab_at hi]
  have e : i / C * C + i % C = i := by rw [Nat.mul_comm]; exact Nat.div_add_mod i C
  unfold enO
  rw [e]
  exact toO_NR (hF.at (by rw [hl]; exact hi))
/-- Turned over, what was told is told the other way round. -/
theorem turn_of {R C : Nat} {o : Nat → Nat → Option Nat} {ps : List Nat} (h : LN (tabM R C o) ps) (hp : ∀ i j, PO (o i j)) : tabM C R (fun i j => enO C ps j i) = tabM C R (fun i j => o j i) :=
  tabM_congr fun i j hi hj => en_of h (hp j i) hj hi
theorem mprod_comm (x y : Ieee.Datum) : x.product y = y.product x := by
  cases x with
  | nan s t => cases y <;> rfl
  | infinity s =>
    cases y with
    | nan u v => rfl
    | infinity u => cases s <;> cases u <;> rfl
    | number u n j => rfl
  | number s m i =>
    cases y with
    | nan u v => rfl
    | infinity u => rfl
    | number u n j =>
      simp only [Ieee.Datum.product]
      rw [Nat.mul_comm, Int.add_comm i, Bool.xor_comm]
theorem mulO_comm' (o p : Option Nat) : opO .mul o p = opO .mul p o := by
  cases o with
  | none => cases p <;> rfl
  | some a =>
    cases p with
    | none => rfl
    | some b =>
      show floatBits .mul .f64 a b = floatBits .mul .f64 b a
      rw [(fbits_map a b).2.2.1, (fbits_map b a).2.2.1, mprod_comm]
theorem mu_congr {C D D2 : Nat} {xs ys xs2 ys2 : List Nat} {C2 : Nat} {i j i2 j2 : Nat} {k : Nat} (h : ∀ q, q < k → opO .mul (enO C xs i q) (enO D ys q j) = opO .mul (enO C2 xs2 i2 q) (enO D2 ys2 q j2)) : muO C D xs ys i j k = muO C2 D2 xs2 ys2 i2 j2 k := by
  induction k with
  | zero => rfl
  | succ k ih => rw [muO, muO, ih (fun q hq => h q (by omega)), h k (by omega)]
/-- The product of both turned over, the other way round. -/
theorem mul_turn {R C D : Nat} {xs ys us ss : List Nat} (hu : LN (tabM D C (fun i j => enO D ys j i)) us) (hs : LN (tabM C R (fun i j => enO C xs j i)) ss) {i j : Nat} (hi : i < D) (hj : j < R) : muO C R us ss i j C = muO C D xs ys j i C :=
  mu_congr fun q hq => by
    rw [en_of hu (PO_toO _) hi hq, en_of hs (PO_toO _) hq hj, mulO_comm']
theorem turns_same {R C D : Nat} {xs ys us ss ps ts vs : List Nat} (hp : LN (tabM R D (fun i j => muO C D xs ys i j C)) ps) (ht : LN (tabM D R (fun i j => enO D ps j i)) ts) (hu : LN (tabM D C (fun i j => enO D ys j i)) us) (hs : LN (tabM C R (fun i j => enO C xs j i)) ss) (hv : LN (tabM D R (fun i j => muO C R us ss i j C)) vs) : sameL ts vs = true := by
  rw [turn_of hp (fun i j => PO_mu _ _ _ _ _ _ _)] at ht
  rw [tabM_congr (p := fun i j => muO C D xs ys j i C) (fun i j hi hj => mul_turn hu hs hi hj)] at hv
  exact ht.same hv
theorem twice_same {R C : Nat} {xs ss ws : List Nat} (hF : FW xs) (hl : xs.length = R * C) (hs : LN (tabM C R (fun i j => enO C xs j i)) ss) (hw : LN (tabM R C (fun i j => enO R ss j i)) ws) : sameL ws xs = true := by
  rw [turn_of hs (fun i j => PO_toO _)] at hw
  exact hw.same (LN_self hF hl)
/-- Apply to a column is the product's column. -/
theorem column_same {R C D c : Nat} {xs ys ps cs : List Nat} (hc : c < D) (hcv : ∀ q, q < C → cs.getD q 0 = ys.getD (q * D + c) 0) (hp : LN (tabM R D (fun i j => muO C D xs ys i j C)) ps) {qs : List Nat} (hq : qs.length = R) (hqv : ∀ i, i < R → qs.getD i 0 = ps.getD (i * D + c) 0) :
    LN (tabM R 1 (fun i j => muO C 1 xs cs i j C)) qs := by
  refine ⟨by rw [tabM_len, Nat.mul_one]; exact hq, fun i hi => ?_⟩
  rw [tabM_len, Nat.mul_one] at hi
  have h1 := tabM_at (R := R) (C := 1) (o := fun i j => muO C 1 xs cs i j C) hi (show 0 < 1 by omega)
  rw [Nat.mul_one, Nat.add_zero] at h1
  rw [h1, hqv i hi]
  have h2 := hp.2 (i * D + c) (by rw [tabM_len]; exact at_lt hi hc)
  rw [tabM_at hi hc] at h2
  have e : muO C 1 xs cs i 0 C = muO C D xs ys i c C := mu_congr fun q hq => by
    unfold enO
    rw [Nat.mul_one, Nat.add_zero, hcv q hq]
  show NR (muO C 1 xs cs i 0 C) _
  rw [e]
  exact h2
theorem sameB_toO {a b : Nat} (h : sameB a b = true) : toO a = toO b := by
  unfold sameB at h
  unfold toO
  cases ha : nanB a
  · rw [ha] at h
    simp only [Bool.false_eq_true, if_false] at h
    have e : a = b := by simpa using h
    subst e
    rw [ha]
  · rw [ha] at h
    simp only [if_true] at h
    rw [h]
    rfl
theorem sameL_at {xs ys : List Nat} (h : sameL xs ys = true) {j : Nat} (hj : j < xs.length) : sameB (xs.getD j 0) (ys.getD j 0) = true := by
  unfold sameL at h
  simp only [Bool.and_eq_true] at h
  exact List.all_eq_true.1 h.2 j (List.mem_range.2 hj)
/-- A matrix times itself turned over is symmetric. -/
theorem own_sym {R C : Nat} {xs ys us ps : List Nat} (hR : R ≤ 48) (hu : LN (tabM R C (fun i j => enO R ys j i)) us) (hs : sameL us xs = true) (hp : LN (tabM R R (fun i j => muO C R xs ys i j C)) ps) : symM R R ps = true := by
  have hpl : ps.length = R * R := by rw [hp.1, tabM_len]
  have hul : us.length = R * C := by rw [hu.1, tabM_len]
  unfold symM
  rw [hpl, rightM_yes hR hR, decide_eq_true rfl, Bool.true_and, Bool.true_and, List.all_eq_true]
  simp only [Int.toNat_natCast]
  intro p hm
  have hm := List.mem_range.1 hm
  obtain ⟨h1, h2⟩ := div_lt' hm
  have hy : ∀ k j, k < C → j < R → enO R ys k j = enO C xs j k := fun k j hk hj => by
    rw [← en_of hu (PO_toO _) hj hk]
    unfold enO
    exact sameB_toO (sameL_at hs (by rw [hul]; exact at_lt hj hk))
  have e1 := hp.2 p (by rw [tabM_len]; exact hm)
  have e2 := hp.2 (p % R * R + p / R) (by rw [tabM_len]; exact at_lt h2 h1)
  rw [tabM_at h2 h1] at e2
  unfold tabM at e1
  rw [tab_at hm] at e1
  have e : muO C R xs ys (p % R) (p / R) C = muO C R xs ys (p / R) (p % R) C := mu_congr fun q hq => by
    rw [hy q _ hq h1, hy q _ hq h2, mulO_comm']
  rw [e] at e2
  exact NR_sameB e1 e2
end Go.Proofs.YtmbcmhncicbbjaaGreatDoor

namespace Go.Proofs.YtmbcmhncicbbjaaGreatDoor
open Go.RowKit

/-- A number brought below 7. -/
def pk7 (x : Int) : Nat := (if x.tmod 7 < 0 then x.tmod 7 + 7 else x.tmod 7).toNat
theorem tmod7 (x : Int) : -7 < x.tmod 7 ∧ x.tmod 7 < 7 := by
  have b1 : x.tmod 7 < 7 := Int.tmod_lt_of_pos x (by omega)
  have b2 := Int.tmod_lt_of_pos (-x) (show (0 : Int) < 7 by omega)
  rw [Int.neg_tmod] at b2
  omega
theorem pk7_le (x : Int) : pk7 x ≤ 6 := by
  have := tmod7 x
  unfold pk7
  split <;> omega
/-- The number at place k, round and round. -/
def rndA (l : List Nat) (k : Nat) : Nat := if l.length = 0 then 4607182418800017408 else l.getD (k % l.length) 0
def rndL (l : List Nat) (n : Nat) : List Nat := (List.range n).map (rndA l)
theorem rndL_len (l : List Nat) (n : Nat) : (rndL l n).length = n := by simp [rndL]
theorem rndL_succ (l : List Nat) (n : Nat) : rndL l (n + 1) = rndL l n ++ [rndA l n] := by simp [rndL, List.range_succ]
theorem rndA_lt {l : List Nat} (h : FW l) (k : Nat) : rndA l k < 18446744073709551616 := by
  unfold rndA
  split
  · omega
  · exact h.at (Nat.mod_lt _ (by omega))
theorem rndL_fw {l : List Nat} (h : FW l) (n : Nat) : FW (rndL l n) := fun x hx => by
  obtain ⟨k, _, rfl⟩ := List.mem_map.1 hx
  exact rndA_lt h k
theorem rndL_at {l : List Nat} {n k : Nat} (h : k < n) : (rndL l n).getD k 0 = rndA l k := by simp [rndL, List.getD_eq_getElem?_getD, h]
theorem B3.past {w w1 : World} {b B : Nat} {x y z : Value} (h : B3 w b x y z) (hb : Below B w w1) (hB : b < B) : B3 w1 b x y z := by
  obtain ⟨h0, h1, h2, g0, g1, g2, h5⟩ := h
  exact ⟨by rw [hb.cell (p := ⟨b, 0, none⟩) hB]; exact h0, by rw [hb.cell (p := ⟨b, 1, none⟩) hB]; exact h1, by rw [hb.cell (p := ⟨b, 2, none⟩) hB]; exact h2, by rw [hb.frozen (p := ⟨b, 0, none⟩) hB]; exact g0, by rw [hb.frozen (p := ⟨b, 1, none⟩) hB]; exact g1, by rw [hb.frozen (p := ⟨b, 2, none⟩) hB]; exact g2, Nat.lt_of_lt_of_le h5 hb.size⟩
theorem B3.put2 {w : World} {b : Nat} {x y z : Value} (h : B3 w b x y z) (v : Value) : B3 (w.setCell ⟨b, 2, none⟩ v) b x y v := by
  obtain ⟨h0, h1, h2, g0, g1, g2, h5⟩ := h
  refine ⟨(World.cell?_setCell_other _ _ _ v (by simp)).trans h0, (World.cell?_setCell_other _ _ _ v (by simp)).trans h1, World.cell?_setCell_same _ _ v h2, ?_, ?_, ?_, ?_⟩
  · simp [go_sem, g0]
  · simp [go_sem, g1]
  · simp [go_sem, g2]
  · simp [go_sem]; exact h5
/-- What stands in memory while a matrix is laid. -/
structure LaidS (w wr : World) (R C M B k : Nat) (v : Value) (xs : List Nat) : Prop where
  res : B3 wr w.heap.size (.int .i64 0) (.int .i64 0) (.slice none 0 0)
  mbox : B3 wr M (.int .i64 R) (.int .i64 C) v
  own : wr.ownsRow B 48 1 v k (fv xs)
  lo : w.heap.size < B ∧ M < B ∧ B ≤ wr.heap.size ∧ w.heap.size < M
  below : Below w.heap.size w wr
theorem LaidS.next {w wr w1 : World} {R C M B k r : Nat} {v v' : Value} {xs : List Nat} (h : LaidS w wr R C M B k v xs) (o : Obj) (hown : w1.ownsRow B 48 1 v' (k + 1) (fv xs ++ [.float .f64 r])) (hg : (wr.alloc o).grownBy w1 v.ownBlock) :
    B3 w1 M (.int .i64 R) (.int .i64 C) v ∧ LaidS w (w1.setCell ⟨M, 2, none⟩ v') R C M B (k + 1) v' (xs ++ [r]) := by
  have hb : Below B wr w1 := ((Below.refl B wr).alloc h.lo.2.2.1 o).grown hg (by have := h.lo.2.2.1; simp; omega) (fun k hk => (h.own.lt k hk).1)
  have hM := h.mbox.past hb h.lo.2.1
  refine ⟨hM, (h.res.past hb h.lo.1).far (by have := h.lo.2.2.2; omega) _, hM.put2 _, ?_, ⟨h.lo.1, h.lo.2.1, ?_, h.lo.2.2.2⟩, ?_⟩
  · rw [fv_snoc]
    exact ownsRow_setCell_below hown (a := ⟨M, 2, none⟩) h.lo.2.1 _
  · have := hb.size; have := h.lo.2.2.1; simp [World.setCell]; omega
  · exact (h.below.trans (hb.mono (Nat.le_of_lt h.lo.1))).setCell (Nat.le_of_lt h.lo.2.2.2) _
end Go.Proofs.YtmbcmhncicbbjaaGreatDoor

namespace Go.Proofs.YtmbcmhncicbbjaaGreatDoor
open Go.RowKit

theorem own_later {w w' : World} {b : Nat} {e : TypeId} {v : Value} {n : Nat} {xs : List Value} (h : w.ownsRow b e 1 v n xs) (hb : Below w.heap.size w w') : w'.ownsRow b e 1 v n xs := by
  have hl := h.lt
  refine ⟨h.1, ?_⟩
  rcases h.2 with hn | ⟨g, cap, cur, rfl, h2, h3, h4⟩
  · exact Or.inl hn
  · exact Or.inr ⟨g, cap, cur, rfl, h2, by rw [hb.block g (hl g rfl).2]; exact h3, h4⟩
end Go.Proofs.YtmbcmhncicbbjaaGreatDoor
