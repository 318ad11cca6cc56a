/- What the law's laid answers (as the numbers are): a matrix out of a list, round and round. -/
import Derived.Test.YtnbdhbmiiplmbaaMx6
import Derived.Test.YtnbdhbmiiplmbaaMx7
import Derived.Test.YtnbdhbmiiplmbaaAh
namespace Go.Proofs.Ytnbdhbmiiplmbaa
open Go.RowKit

/-- No NaN but as none. -/
def PO (o : Option Nat) : Prop := ∀ v, o = some v → nanB v = false
theorem PO_toO (x : Nat) : PO (toO x) := fun v h => by
  unfold toO at h
  split at h
  · cases h
  · cases h; rename_i h; simpa using h
theorem PO_op {op : BinOp} (hop : FourOp op) (o p : Option Nat) : PO (opO op o p) := fun v h => by
  cases o with
  | none => cases h
  | some a =>
    cases p with
    | none => cases h
    | some b => exact rung_nan (op_word hop (show floatBits op .f64 a b = some v from h)).2
theorem PO_zero : PO (some 0) := fun v h => by cases h; decide
theorem PO_mu (C D : Nat) (xs ys : List Nat) (i j k : Nat) : PO (muO C D xs ys i j k) := by
  cases k with
  | zero => exact PO_zero
  | succ k => exact PO_op (Or.inl rfl) _ _
theorem NR_PO {o : Option Nat} {r : Nat} (h : NR o r) (hp : PO o) : toO r = o := by
  cases o with
  | none =>
    have : nanB r = true := h.2
    unfold toO; rw [this]; rfl
  | some v =>
    have e : r = v := h.2
    unfold toO
    rw [e, hp v rfl]
    rfl
theorem tabM_at {R C : Nat} {o : Nat → Nat → Option Nat} {i j : Nat} (hi : i < R) (hj : j < C) : (tabM R C o).getD (i * C + j) none = o i j := by
  unfold tabM
  rw [tab_at (at_lt hi hj), (at_div hj).1, (at_div hj).2]
/-- What was told of an entry is that entry. -/
theorem en_of {R C : Nat} {o : Nat → Nat → Option Nat} {ps : List Nat} (h : LN (tabM R C o) ps) {i j : Nat} (hp : PO (o i j)) (hi : i < R) (hj : j < C) : enO C ps i j = o i j := by
  have := h.2 (i * C + j) (by rw [tabM_len]; exact at_lt hi hj)
  rw [tabM_at hi hj] at this
  exact NR_PO this hp
theorem div_lt' {R C p : Nat} (h : p < R * C) : p / C < R ∧ p % C < C := by
  have hC : 0 < C := Nat.pos_of_ne_zero (fun e => by subst e; simp at h)
  exact ⟨Nat.div_lt_of_lt_mul (by rw [Nat.mul_comm]; exact h), Nat.mod_lt _ hC⟩
theorem tabM_congr {R C : Nat} {o p : Nat → Nat → Option Nat} (h : ∀ i j, i < R → j < C → o i j = p i j) : tabM R C o = tabM R C p := by
  unfold tabM tab
  apply List.map_congr_left
  intro a ha
  have := div_lt' (List.mem_range.1 ha)
  exact h _ _ this.1 this.2
theorem LN_self {R C : Nat} {xs : List Nat} (hF : FW xs) (hl : xs.length = R * C) : LN (tabM R C (enO C xs)) xs := by
  refine ⟨by rw [tabM_len]; exact hl, fun i hi => ?_⟩
  rw [tabM_len] at hi
  unfold tabM
  rw [tab_at hi]
  have e : i / C * C + i % C = i := by rw [Nat.mul_comm]; exact Nat.div_add_mod i C
  unfold enO
  rw [e]
  exact toO_NR (hF.at (by rw [hl]; exact hi))
/-- Turned over, what was told is told the other way round. -/
theorem turn_of {R C : Nat} {o : Nat → Nat → Option Nat} {ps : List Nat} (h : LN (tabM R C o) ps) (hp : ∀ i j, PO (o i j)) : tabM C R (fun i j => enO C ps j i) = tabM C R (fun i j => o j i) :=
  tabM_congr fun i j hi hj => en_of h (hp j i) hj hi
theorem mprod_comm (x y : Ieee.Datum) : x.product y = y.product x := by
  cases x with
  | nan s t => cases y <;> rfl
  | infinity s =>
    cases y with
    | nan u v => rfl
    | infinity u => cases s <;> cases u <;> rfl
    | number u n j => rfl
  | number s m i =>
    cases y with
    | nan u v => rfl
    | infinity u => rfl
    | number u n j =>
      simp only [Ieee.Datum.product]
      rw [Nat.mul_comm, Int.add_comm i, Bool.xor_comm]
theorem mulO_comm' (o p : Option Nat) : opO .mul o p = opO .mul p o := by
  cases o with
  | none => cases p <;> rfl
  | some a =>
    cases p with
    | none => rfl
    | some b =>
      show floatBits .mul .f64 a b = floatBits .mul .f64 b a
      rw [(fbits_map a b).2.2.1, (fbits_map b a).2.2.1, mprod_comm]
theorem mu_congr {C D D2 : Nat} {xs ys xs2 ys2 : List Nat} {C2 : Nat} {i j i2 j2 : Nat} {k : Nat} (h : ∀ q, q < k → opO .mul (enO C xs i q) (enO D ys q j) = opO .mul (enO C2 xs2 i2 q) (enO D2 ys2 q j2)) : muO C D xs ys i j k = muO C2 D2 xs2 ys2 i2 j2 k := by
  induction k with
  | zero => rfl
  | succ k ih => rw [muO, muO, ih (fun q hq => h q (by omega)), h k (by omega)]
/-- The product of both turned over, the other way round. -/
theorem mul_turn {R C D : Nat} {xs ys us ss : List Nat} (hu : LN (tabM D C (fun i j => enO D ys j i)) us) (hs : LN (tabM C R (fun i j => enO C xs j i)) ss) {i j : Nat} (hi : i < D) (hj : j < R) : muO C R us ss i j C = muO C D xs ys j i C :=
  mu_congr fun q hq => by
    rw [en_of hu (PO_toO _) hi hq, en_of hs (PO_toO _) hq hj, mulO_comm']
theorem turns_same {R C D : Nat} {xs ys us ss ps ts vs : List Nat} (hp : LN (tabM R D (fun i j => muO C D xs ys i j C)) ps) (ht : LN (tabM D R (fun i j => enO D ps j i)) ts) (hu : LN (tabM D C (fun i j => enO D ys j i)) us) (hs : LN (tabM C R (fun i j => enO C xs j i)) ss) (hv : LN (tabM D R (fun i j => muO C R us ss i j C)) vs) : sameL ts vs = true := by
  rw [turn_of hp (fun i j => PO_mu _ _ _ _ _ _ _)] at ht
  rw [tabM_congr (p := fun i j => muO C D xs ys j i C) (fun i j hi hj => mul_turn hu hs hi hj)] at hv
  exact ht.same hv
theorem twice_same {R C : Nat} {xs ss ws : List Nat} (hF : FW xs) (hl : xs.length = R * C) (hs : LN (tabM C R (fun i j => enO C xs j i)) ss) (hw : LN (tabM R C (fun i j => enO R ss j i)) ws) : sameL ws xs = true := by
  rw [turn_of hs (fun i j => PO_toO _)] at hw
  exact hw.same (LN_self hF hl)
/-- Apply to a column is the product's column. -/
theorem column_same {R C D c : Nat} {xs ys ps cs : List Nat} (hc : c < D) (hcv : ∀ q, q < C → cs.getD q 0 = ys.getD (q * D + c) 0) (hp : LN (tabM R D (fun i j => muO C D xs ys i j C)) ps) {qs : List Nat} (hq : qs.length = R) (hqv : ∀ i, i < R → qs.getD i 0 = ps.getD (i * D + c) 0) :
    LN (tabM R 1 (fun i j => muO C 1 xs cs i j C)) qs := by
  refine ⟨by rw [tabM_len, Nat.mul_one]; exact hq, fun i hi => ?_⟩
  rw [tabM_len, Nat.mul_one] at hi
  have h1 := tabM_at (R := R) (C := 1) (o := fun i j => muO C 1 xs cs i j C) hi (show 0 < 1 by omega)
  rw [Nat.mul_one, Nat.add_zero] at h1
  rw [h1, hqv i hi]
  have h2 := hp.2 (i * D + c) (by rw [tabM_len]; exact at_lt hi hc)
  rw [tabM_at hi hc] at h2
  have e : muO C 1 xs cs i 0 C = muO C D xs ys i c C := mu_congr fun q hq => by
    unfold enO
    rw [Nat.mul_one, Nat.add_zero, hcv q hq]
  show NR (muO C 1 xs cs i 0 C) _
  rw [e]
  exact h2
theorem sameB_toO {a b : Nat} (h : sameB a b = true) : toO a = toO b := by
  unfold sameB at h
  unfold toO
  cases ha : nanB a
  · rw [ha] at h
    simp only [Bool.false_eq_true, if_false] at h
    have e : a = b := by simpa using h
    subst e
    rw [ha]
  · rw [ha] at h
    simp only [if_true] at h
    rw [h]
    rfl
theorem sameL_at {xs ys : List Nat} (h : sameL xs ys = true) {j : Nat} (hj : j < xs.length) : sameB (xs.getD j 0) (ys.getD j 0) = true := by
  unfold sameL at h
  simp only [Bool.and_eq_true] at h
  exact List.all_eq_true.1 h.2 j (List.mem_range.2 hj)
/-- A matrix times itself turned over is symmetric. -/
theorem own_sym {R C : Nat} {xs ys us ps : List Nat} (hR : R ≤ 48) (hu : LN (tabM R C (fun i j => enO R ys j i)) us) (hs : sameL us xs = true) (hp : LN (tabM R R (fun i j => muO C R xs ys i j C)) ps) : symM R R ps = true := by
  have hpl : ps.length = R * R := by rw [hp.1, tabM_len]
  have hul : us.length = R * C := by rw [hu.1, tabM_len]
  unfold symM
  rw [hpl, rightM_yes hR hR, decide_eq_true rfl, Bool.true_and, Bool.true_and, List.all_eq_true]
  simp only [Int.toNat_natCast]
  intro p hm
  have hm := List.mem_range.1 hm
  obtain ⟨h1, h2⟩ := div_lt' hm
  have hy : ∀ k j, k < C → j < R → enO R ys k j = enO C xs j k := fun k j hk hj => by
    rw [← en_of hu (PO_toO _) hj hk]
    unfold enO
    exact sameB_toO (sameL_at hs (by rw [hul]; exact at_lt hj hk))
  have e1 := hp.2 p (by rw [tabM_len]; exact hm)
  have e2 := hp.2 (p % R * R + p / R) (by rw [tabM_len]; exact at_lt h2 h1)
  rw [tabM_at h2 h1] at e2
  unfold tabM at e1
  rw [tab_at hm] at e1
  have e : muO C R xs ys (p % R) (p / R) C = muO C R xs ys (p / R) (p % R) C := mu_congr fun q hq => by
    rw [hy q _ hq h1, hy q _ hq h2, mulO_comm']
  rw [e] at e2
  exact NR_sameB e1 e2
end Go.Proofs.Ytnbdhbmiiplmbaa

namespace Go.Proofs.Ytnbdhbmiiplmbaa
open Go.RowKit

/-- A number brought below 7. -/
def pk7 (x : Int) : Nat := (if x.tmod 7 < 0 then x.tmod 7 + 7 else x.tmod 7).toNat
theorem tmod7 (x : Int) : -7 < x.tmod 7 ∧ x.tmod 7 < 7 := by
  have b1 : x.tmod 7 < 7 := Int.tmod_lt_of_pos x (by omega)
  have b2 := Int.tmod_lt_of_pos (-x) (show (0 : Int) < 7 by omega)
  rw [Int.neg_tmod] at b2
  omega
theorem pk7_le (x : Int) : pk7 x ≤ 6 := by
  have := tmod7 x
  unfold pk7
  split <;> omega
set_option maxHeartbeats 400000 in
theorem pick7 (x : Int) (w : World) : Calls Try.prog 69 #[.int .i64 x, .int .i64 7] w fun e w' => e = .returned (.int .i64 (pk7 x : Nat)) ∧ w' = w := by
  have b := tmod7 x
  by_cases h : x.tmod 7 < 0
  · have HP : Hid (((pk7 x : Nat) : Int) = x.tmod 7 + 7) := (show _ = _ by unfold pk7; rw [if_pos h]; omega)
    generalize hy : x.tmod 7 = y at *
    generalize pk7 x = p at *
    have b1 := b.1
    clear b
    go_enter Try.func69, Try.ntmps69
    go_wp2
    go_ret
    exact ⟨end_int HP.out.symm, rfl⟩
  · have HP : Hid (((pk7 x : Nat) : Int) = x.tmod 7) := (show _ = _ by unfold pk7; rw [if_neg h]; omega)
    generalize hy : x.tmod 7 = y at *
    generalize pk7 x = p at *
    have b1 := b.2
    clear b
    go_enter Try.func69, Try.ntmps69
    go_wp2
    go_ret
    exact ⟨end_int HP.out.symm, rfl⟩
/-- The number at place k, round and round. -/
def rndA (l : List Nat) (k : Nat) : Nat := if l.length = 0 then 4607182418800017408 else l.getD (k % l.length) 0
def rndL (l : List Nat) (n : Nat) : List Nat := (List.range n).map (rndA l)
theorem rndL_len (l : List Nat) (n : Nat) : (rndL l n).length = n := by simp [rndL]
theorem rndL_succ (l : List Nat) (n : Nat) : rndL l (n + 1) = rndL l n ++ [rndA l n] := by simp [rndL, List.range_succ]
theorem rndA_lt {l : List Nat} (h : FW l) (k : Nat) : rndA l k < 18446744073709551616 := by
  unfold rndA
  split
  · omega
  · exact h.at (Nat.mod_lt _ (by omega))
theorem rndL_fw {l : List Nat} (h : FW l) (n : Nat) : FW (rndL l n) := fun x hx => by
  obtain ⟨k, _, rfl⟩ := List.mem_map.1 hx
  exact rndA_lt h k
theorem rndL_at {l : List Nat} {n k : Nat} (h : k < n) : (rndL l n).getD k 0 = rndA l k := by simp [rndL, List.getD_eq_getElem?_getD, h]
theorem B3.past {w w1 : World} {b B : Nat} {x y z : Value} (h : B3 w b x y z) (hb : Below B w w1) (hB : b < B) : B3 w1 b x y z := by
  obtain ⟨h0, h1, h2, g0, g1, g2, h5⟩ := h
  exact ⟨by rw [hb.cell (p := ⟨b, 0, none⟩) hB]; exact h0, by rw [hb.cell (p := ⟨b, 1, none⟩) hB]; exact h1, by rw [hb.cell (p := ⟨b, 2, none⟩) hB]; exact h2, by rw [hb.frozen (p := ⟨b, 0, none⟩) hB]; exact g0, by rw [hb.frozen (p := ⟨b, 1, none⟩) hB]; exact g1, by rw [hb.frozen (p := ⟨b, 2, none⟩) hB]; exact g2, Nat.lt_of_lt_of_le h5 hb.size⟩
theorem B3.put2 {w : World} {b : Nat} {x y z : Value} (h : B3 w b x y z) (v : Value) : B3 (w.setCell ⟨b, 2, none⟩ v) b x y v := by
  obtain ⟨h0, h1, h2, g0, g1, g2, h5⟩ := h
  refine ⟨(World.cell?_setCell_other _ _ _ v (by simp)).trans h0, (World.cell?_setCell_other _ _ _ v (by simp)).trans h1, World.cell?_setCell_same _ _ v h2, ?_, ?_, ?_, ?_⟩
  · simp [go_sem, g0]
  · simp [go_sem, g1]
  · simp [go_sem, g2]
  · simp [go_sem]; exact h5
/-- What stands in memory while a matrix is laid. -/
structure LaidS (w wr : World) (R C M B k : Nat) (v : Value) (xs : List Nat) : Prop where
  res : B3 wr w.heap.size (.int .i64 0) (.int .i64 0) (.slice none 0 0)
  mbox : B3 wr M (.int .i64 R) (.int .i64 C) v
  own : wr.ownsRow B 31 1 v k (fv xs)
  lo : w.heap.size < B ∧ M < B ∧ B ≤ wr.heap.size ∧ w.heap.size < M
  below : Below w.heap.size w wr
theorem LaidS.next {w wr w1 : World} {R C M B k r : Nat} {v v' : Value} {xs : List Nat} (h : LaidS w wr R C M B k v xs) (o : Obj) (hown : w1.ownsRow B 31 1 v' (k + 1) (fv xs ++ [.float .f64 r])) (hg : (wr.alloc o).grownBy w1 v.ownBlock) :
    B3 w1 M (.int .i64 R) (.int .i64 C) v ∧ LaidS w (w1.setCell ⟨M, 2, none⟩ v') R C M B (k + 1) v' (xs ++ [r]) := by
  have hb : Below B wr w1 := ((Below.refl B wr).alloc h.lo.2.2.1 o).grown hg (by have := h.lo.2.2.1; simp; omega) (fun k hk => (h.own.lt k hk).1)
  have hM := h.mbox.past hb h.lo.2.1
  refine ⟨hM, (h.res.past hb h.lo.1).far (by have := h.lo.2.2.2; omega) _, hM.put2 _, ?_, ⟨h.lo.1, h.lo.2.1, ?_, h.lo.2.2.2⟩, ?_⟩
  · rw [fv_snoc]
    exact ownsRow_setCell_below hown (a := ⟨M, 2, none⟩) h.lo.2.1 _
  · have := hb.size; have := h.lo.2.2.1; simp [World.setCell]; omega
  · exact (h.below.trans (hb.mono (Nat.le_of_lt h.lo.1))).setCell (Nat.le_of_lt h.lo.2.2.2) _
set_option maxHeartbeats 2000000 in
theorem laid_any (n m : Int) (l : List Nat) (ao : Option Addr) (cap : Nat) (w : World) (hr : GRow w ao l) (hn : l.length ≤ 17592186044416) :
    Calls Try.prog 41 #[.int .i64 n, .int .i64 m, .slice ao l.length cap, .bool false] w fun e w' => ∃ zo zc, e = .returned (mxV (pk7 n) (pk7 m) zo (pk7 n * pk7 m) zc) ∧ GRow w' zo (rndL l (pk7 n * pk7 m)) ∧ pk7 n * pk7 m ≤ zc ∧ Frs w.heap.size zo ∧ Below w.heap.size w w' := by
  have p1 := fun w => pick7 n w
  have p2 := fun w => pick7 m w
  have hR := pk7_le n
  have hC := pk7_le m
  generalize pk7 n = R at *
  generalize pk7 m = C at *
  obtain ⟨N, hN⟩ : ∃ N, R * C = N := ⟨_, rfl⟩
  have hNb : N ≤ 36 := by rw [← hN]; exact Nat.le_trans (Nat.mul_le_mul hR hC) (by decide)
  have eN : (R : Int) * (C : Int) = (N : Int) := by rw [mulI, hN]
  rw [hN]
  obtain ⟨i0, hi, hz0, hz1, hz2⟩ := info_parts Try.infoF
  clear hN
  go_enter Try.func41, Try.ntmps41
  go_upto_region 2 with (first
    | (go_at_call_of 69 (Value.int IntKind.i64 n); refine (p1 _).mono ?_; rintro e w' ⟨rfl, h'⟩; subst w')
    | (go_at_call_of 69 (Value.int IntKind.i64 m); refine (p2 _).mono ?_; rintro e w' ⟨rfl, h'⟩; subst w')
    | (go_at_call 12; refine (lof_any _ _ _ _ _ _).mono ?_; rintro e w1 ⟨rfl, b1⟩; have RB := (B3.new w _ _ _ _).below b1; have bb := old_one b1; have hsz := b1.size))
  have S0 : LaidS w (w1.alloc (.cells #[.int .i64 R, .int .i64 C, .slice none 0 0] 24)) R C w1.heap.size (w1.heap.size + 1) 0 (.slice none 0 0) [] := by
    have := RB.2.2.2.2.2.2
    exact ⟨RB.alloc _, B3.new _ _ _ _ _, World.ownsRow_nil _ _ _ _, ⟨by omega, by omega, by simp, this⟩, bb.alloc bb.size _⟩
  clear RB bb hsz b1 p1 p2
  generalize w1.alloc (.cells #[.int .i64 R, .int .i64 C, .slice none 0 0] 24) = wS at *
  generalize w1.heap.size = M at *
  generalize M + 1 = B at *
  go_wp2
  go_loopg [10] N (fun g i wr => ∃ (k : Nat) (v : Value), k ≤ N ∧ g = N - k ∧ i = .int .i64 k ∧ LaidS w wr R C M B k v (rndL l k))
  case atStart => exact ⟨0, .slice none 0 0, Nat.zero_le _, rfl, rfl, S0⟩
  case round =>
    obtain ⟨k, v, hk, hg, rfl, hS⟩ := hrel
    have HG : Hid (gk = N - k) := hg
    clear hg S0
    obtain ⟨m0, m1, m2, f0, f1, f2, hM⟩ := id hS.mbox
    by_cases hlt : k < N
    · have i1 : (k : Int) < (N : Int) := by omega
      obtain ⟨x, hx⟩ : ∃ x, rndA l k = x := ⟨_, rfl⟩
      have HL : Hid (rndL l (k + 1) = rndL l k ++ [x]) := (show _ = _ by rw [rndL_succ, hx])
      have hown := hS.own
      have hlo := hS.lo
      have HW : ∀ o, B ≤ (wr.alloc o).heap.size := fun o => by have := hlo.2.2.1; simp; omega
      by_cases h0 : l.length = 0
      · have e1 : x = 4607182418800017408 := by rw [← hx]; unfold rndA; rw [if_pos h0]
        subst e1
        have i2 : ¬ (0 : Int) < (l.length : Int) := by omega
        clear hx h0
        go_wp2_with (at_builtin; refine wpList_append_own _ rfl _ _ 22 rfl B 31 i0 (.float .f64 0) 1 8 Try.underlying22 hi hz0 hz1 hz2 rfl (by decide) _ _ _ rfl (hown.alloc _) _ 1 1 [.float .f64 4607182418800017408] rfl rfl (World.news_of_block (cs := #[.float .f64 4607182418800017408]) (t := 31) (fr := (0, 0)) (heap_alloc_new _ _)) (by simp [Value.oneCell']) (by unfold maxLen; omega) (by omega) (HW _) ?_; intro v' w2 hown1 hgrow _; obtain ⟨gg, gc, rfl, _⟩ := hown1.form (by omega); have hnx := hS.next _ hown1 hgrow; obtain ⟨m0, m1, m2, f0, f1, f2, _⟩ := id hnx.1)
        go_roundg (N - (k + 1))
        case measure => rw [HG.out]; omega
        case rel => exact ⟨k + 1, _, by omega, rfl, by go_num, by rw [HL.out]; exact hnx.2⟩
      · have i2 : (0 : Int) < (l.length : Int) := by omega
        have hq := Nat.mod_lt k (show 0 < l.length by omega)
        have e1 : l.getD (k % l.length) 0 = x := by rw [← hx]; unfold rndA; rw [if_neg h0]
        obtain ⟨q, hqq⟩ : ∃ q, k % l.length = q := ⟨_, rfl⟩
        have e2 : (k : Int).tmod (l.length : Int) = (q : Int) := by rw [← hqq]; exact Int.ofNat_tmod k l.length
        rw [hqq] at hq e1
        have hqI : (q : Int) < (l.length : Int) := by omega
        rcases hr.below hS.below with h | ⟨b, off, rfl, hc⟩
        · omega
        have g1 := hc q hq
        rw [e1] at g1
        clear hx hc hqq e1
        go_wp2_with (at_builtin; refine wpList_append_own _ rfl _ _ 22 rfl B 31 i0 (.float .f64 0) 1 8 Try.underlying22 hi hz0 hz1 hz2 rfl (by decide) _ _ _ rfl (hown.alloc _) _ 1 1 [.float .f64 x] rfl rfl (World.news_of_block (cs := #[.float .f64 x]) (t := 31) (fr := (0, 0)) (heap_alloc_new _ _)) (by simp [Value.oneCell']) (by unfold maxLen; omega) (by omega) (HW _) ?_; intro v' w2 hown1 hgrow _; obtain ⟨gg, gc, rfl, _⟩ := hown1.form (by omega); have hnx := hS.next _ hown1 hgrow; obtain ⟨m0, m1, m2, f0, f1, f2, _⟩ := id hnx.1)
        go_roundg (N - (k + 1))
        case measure => rw [HG.out]; omega
        case rel => exact ⟨k + 1, _, by omega, rfl, by go_num, by rw [HL.out]; exact hnx.2⟩
    · have ek : k = N := by omega
      subst ek
      have i1 : ¬ (k : Int) < (k : Int) := by omega
      obtain ⟨zo, zc, rfl, hz1', hz2', hz3'⟩ := owned_grow (xs := rndL l k) (by rw [rndL_len]; exact hS.own)
      rw [rndL_len] at m2 hz2'
      obtain ⟨t0, t1, t2, s0, s1, s2, _⟩ := id hS.res
      have hfin : ∀ x y z, GRow (((wr.setCell ⟨w.heap.size, 0, none⟩ x).setCell ⟨w.heap.size, 1, none⟩ y).setCell ⟨w.heap.size, 2, none⟩ z) zo (rndL l k) ∧ Below w.heap.size w (((wr.setCell ⟨w.heap.size, 0, none⟩ x).setCell ⟨w.heap.size, 1, none⟩ y).setCell ⟨w.heap.size, 2, none⟩ z) := fun x y z => ⟨hz1'.boxed hz3' hS.lo.1 x y z, set_three hS.below (Nat.le_refl _) _ _ _⟩
      have hfr : Frs w.heap.size zo := hz3'.mono (Nat.le_of_lt hS.lo.1)
      clear hz1' hS hz3'
      go_wp2
      exact bodyPost_ret (v := mxV R C zo k zc) (by simp [results, Try.results41, go_sem, t0, t1, t2]) rfl ⟨zo, zc, rfl, (hfin _ _ _).1, hz2', hfr, (hfin _ _ _).2⟩
end Go.Proofs.Ytnbdhbmiiplmbaa
