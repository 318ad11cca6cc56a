/- What bars' Springs tells of a plan that may be, its members' springs given. -/
import Derived.Test.YtomohmjjaijlbaaGreatDoorBar23
import Derived.Test.YtomohmjjaijlbaaGreatDoorBE
import Derived.Test.YtomohmjjaijlbaaGreatDoorBD
import Derived.Deep.AppendLies
import Derived.Maps.AppendAt
import Derived.Maps.Range
import Derived.Test.YtomohmjjaijlbaaGreatDoorBA
namespace Go.Proofs.YtomohmjjaijlbaaGreatDoor
open Go.RowKit

theorem cp_one {a b : Am} {K L : Nat × Nat} (ha : Amt a K) (hb : Amt b L) (k : PosK K) (l : PosK L) : CP a [b] 1 (aM a b) := fun ao w hr hT => by
  have o := (amt_mul ha hb k l rfl).2
  have h := bproduct_any a [b] (fun j => if j = 0 then a else aM a b) rfl (fun j hj => by
    obtain rfl : j = 0 := by simp at hj; omega
    exact mul_C ha.rt hb.rt) (fun j hj => by
    obtain rfl : j = 0 := by simp at hj; omega
    exact (rmul_P 0 ha.fn.1 hb.fn.1 o).2) ao 1 w hr (by simp) hT
  exact h
theorem cp_two {a b c : Am} {K L M : Nat × Nat} (ha : Amt a K) (hb : Amt b L) (hc : Amt c M) (k : PosK K) (l : PosK L) (m : PosK M) {N : Nat × Nat} (hN : muP K L = N) (n : PosK N) : CP a [b, c] 2 (aM (aM a b) c) := fun ao w hr hT => by
  obtain ⟨h1, o1⟩ := amt_mul ha hb k l hN
  have o2 := (amt_mul h1 hc n m rfl).2
  have h := bproduct_any a [b, c] (fun j => if j = 0 then a else if j = 1 then aM a b else aM (aM a b) c) rfl (fun j hj => by
    rcases (show j = 0 ∨ j = 1 by simp at hj; omega) with rfl | rfl
    · exact mul_C ha.rt hb.rt
    · exact mul_C h1.rt hc.rt) (fun j hj => by
    rcases (show j = 0 ∨ j = 1 by simp at hj; omega) with rfl | rfl
    · exact (rmul_P 0 ha.fn.1 hb.fn.1 o1).2
    · exact (rmul_P 0 h1.fn.1 hc.fn.1 o2).2) ao 2 w hr (by simp) hT
  exact h
theorem cq_one {a b : Am} {K L : Nat × Nat} (ha : Amt a K) (hb : Amt b L) (k : PosK K) (l : PosK L) : CQ a b (aD a b) := fun w hT => by
  have o := (amt_div ha hb k l rfl).2
  exact bquotient_any a b (aD a b) (div_C ha.rt hb.rt (hb.pos l).mid) (rdiv_P 0 ha.fn.1 hb.fn.1 o).2 w hT
theorem amt_three : Amt (aX 4613937818241073152) k3 := amt_one ⟨by decide, by decide⟩ (by decide) (by decide) (by decide) (by decide)
theorem spK_is (m : Mb) (p q : Jn) : spK m p q = spL m (aptA p q).1 (aptA p q).2.1 (aptA p q).2.2 (axA (aR (l2F p q)) (l2F p q) m.e m.ar) (acA (aR (l2F p q)) (l2F p q) m.e m.i) (enA (aR (l2F p q)) m.e m.i) := rfl
theorem springs_any (m : Mb) (hm : MW m) (p q : Jn) (hl : (aptA p q).2.2 ≠ 0) (he : nbB m.e = true) (ha : nbB m.ar = true) (hi : m.kd ≠ 1 → nbB m.i = true) (w : World) (hT : TabW w) :
    Calls Tryz.prog 42 #[mV m, jV p, jV q] w (SgTold w (spK m p q)) := by
  obtain ⟨aS, aL, fS, lS⟩ := amt_len rfl p q hl
  obtain ⟨b1, b2⟩ := aptA_bd2 p q
  have aE := amt_num hm.e he
  have aA := amt_num hm.ar ha
  have hP := (amt_mul aE aA pos_k60 pos_k60 is_kP).1
  have hSL := (amt_mul aS aL pos_kSq pos_kLn is_kSL).1
  rw [spK_is]
  refine springs_walk m p q _ _ _ b1 b2 (l2F p q) rfl (aR (l2F p q)) (aX (l2F p q)) (aX m.e) (aX m.ar) (aM (aX m.e) (aX m.ar)) (aM (aX (l2F p q)) (aR (l2F p q))) _ (aM (aX m.e) (aX m.i)) _ _ (fun w => apart_any p q w) (fun w hT => blength_any p q w hT) (fun w => bexact_any _ lS fS w) (fun w => bexact_any _ hm.e (num_fin hm.e he) w) (fun w => bexact_any _ hm.ar (num_fin hm.ar ha) w)
    (cp_one aE aA pos_k60 pos_k60) (cp_one aS aL pos_kSq pos_kLn) (cq_one hP hSL pos_kP pos_kSL) (fun k r a w => bspring_any k r a w) ?_ w hT
  by_cases hk : m.kd = 1
  · exact Or.inl (Or.inl hk)
  · have aI := amt_num hm.i (hi hk)
    have hB := (amt_mul aE aI pos_k60 pos_k60 is_kP).1
    have hB3 := (amt_mul amt_three hB pos_k3 pos_kP is_kB3).1
    have hSS := (amt_mul aS aS pos_kSq pos_kSq is_kSS).1
    have hSSL := (amt_mul hSS aL pos_kSS pos_kLn is_kSSL).1
    exact Or.inr ⟨aX m.i, aX 4613937818241073152, aM (aX 4613937818241073152) (aM (aX m.e) (aX m.i)), aM (aM (aX (l2F p q)) (aX (l2F p q))) (aR (l2F p q)),
      fun w => bexact_any _ hm.i (num_fin hm.i (hi hk)) w, cp_one aE aI pos_k60 pos_k60, fun w => bexact_any _ (by decide) (by decide) w, cp_one amt_three hB pos_k3 pos_kP, cp_two aS aS aL pos_kSq pos_kSq pos_kLn is_kSS pos_kSS, cq_one hB3 hSSL pos_kB3 pos_kSSL, cq_one hB aL pos_kP pos_kLn⟩
end Go.Proofs.YtomohmjjaijlbaaGreatDoor

namespace Go.Proofs.YtomohmjjaijlbaaGreatDoor
open Go.RowKit

theorem Tryz.infoSg : (Tryz.prog.info? 65).map (fun i => (i.zero, i.size, i.bytes)) = some (some (.agg #[.int .i64 0, .int .u8 0, .int .i64 0, .int .i64 0, .int .i64 0, .int .i64 0, .int .i64 0, .int .i64 0, .float .f64 0, .float .f64 0, .float .f64 0]), 11, 88) := by kernel_rfl
/-- Springs as cells. -/
def sgL : List Sg → List Value
  | [] => []
  | s :: l => sgC s ++ sgL l
theorem sgL_app : ∀ l m : List Sg, sgL (l ++ m) = sgL l ++ sgL m
  | [], _ => rfl
  | s :: l, m => by simp only [List.cons_append, sgL, sgL_app l m, List.append_assoc]
theorem sgL_at : ∀ (l : List Sg) (j i : Nat), j < l.length → i < 11 → (sgL l)[j * 11 + i]? = (sgC (l.getD j sgz))[i]?
  | [], _, _, h, _ => by simp at h
  | s :: l, 0, i, _, hi => by
    simp only [sgL, Nat.zero_mul, Nat.zero_add]
    rw [List.getElem?_append_left (by simpa using hi)]
    simp
  | s :: l, j + 1, i, h, hi => by
    have := sgL_at l j i (by simpa using h) hi
    simp only [sgL]
    rw [List.getElem?_append_right (by simp; omega)]
    simp only [List.length_cons, List.length_nil]
    rw [show (j + 1) * 11 + i - (0 + 1 + 1 + 1 + 1 + 1 + 1 + 1 + 1 + 1 + 1 + 1) = j * 11 + i by omega, this]
    simp
/-- Of member i. -/
def sgM (i : Int) (s : Sg) : Sg := ⟨i, s.k, s.r, s.a⟩
theorem sg_own {w : World} {B lc : Nat} {lo : Option Addr} {l : List Sg} {n : Nat} (h : w.ownsRow B 65 11 (.slice lo n lc) n (sgL l)) (hl : l.length = n) : SgRow w lo l := by
  rcases Nat.eq_zero_or_pos n with h0 | h0
  · exact Or.inl (hl.trans h0)
  · obtain ⟨q, rfl⟩ : ∃ q, n = q + 1 := ⟨n - 1, by omega⟩
    obtain ⟨g, c, e1⟩ := ownp_shape h
    cases e1
    refine Or.inr ⟨g, 0, rfl, fun j hj => ?_⟩
    have k := fun i (hi : i < 11) => (World.ownsRow.cellAt h (j * 11 + i) (by rw [← hl]; omega)).trans (sgL_at l j i hj hi)
    rw [Nat.zero_add]
    exact ⟨k 0 (by decide), k 1 (by decide), k 2 (by decide), k 3 (by decide), k 4 (by decide), k 5 (by decide), k 6 (by decide), k 7 (by decide), k 8 (by decide), k 9 (by decide), k 10 (by decide)⟩
theorem SAt.grown {w w' : World} {row : Option Nat} {b off : Nat} {s : Sg} (h : SAt w b off s) (hg : w.grownBy w' row) (hne : some b ≠ row) : SAt w' b off s :=
  ⟨hg.cell h.c0 hne, hg.cell h.c1 hne, hg.cell h.c2 hne, hg.cell h.c3 hne, hg.cell h.c4 hne, hg.cell h.c5 hne, hg.cell h.c6 hne, hg.cell h.c7 hne, hg.cell h.c8 hne, hg.cell h.c9 hne, hg.cell h.c10 hne⟩
theorem SAt.far {w : World} {b off g i : Nat} {s : Sg} (h : SAt w b off s) (hn : b ≠ g) (v : Value) : SAt (w.setCell ⟨g, i, none⟩ v) b off s := by
  obtain ⟨c0, c1, c2, c3, c4, c5, c6, c7, c8, c9, c10⟩ := h
  exact ⟨by simp [go_sem, c0], by simp [go_sem, c1], by simp [go_sem, c2], by simp [go_sem, c3], by simp [go_sem, c4], by simp [go_sem, c5], by simp [go_sem, c6], by simp [go_sem, c7], by simp [go_sem, c8], by simp [go_sem, c9], by simp [go_sem, c10]⟩
theorem SBox.set0 {w : World} {b : Nat} {s : Sg} (h : SBox w b s) (i : Int) : SBox (w.setCell ⟨b, 0, none⟩ (.int .i64 i)) b ⟨i, s.k, s.r, s.a⟩ := by
  obtain ⟨⟨c0, c1, c2, c3, c4, c5, c6, c7, c8, c9, c10⟩, hf, lt⟩ := h
  simp only [Nat.zero_add] at c0 c1 c2 c3 c4 c5 c6 c7 c8 c9 c10
  have f0 := hf 0 (by decide)
  refine ⟨⟨by go_simp, by go_simp, by go_simp, by go_simp, by go_simp, by go_simp, by go_simp, by go_simp, by go_simp, by go_simp, by go_simp⟩, fun i hi => ?_, by simpa [World.setCell] using lt⟩
  have := hf i hi
  simp [go_sem, this]
/-- The springs of a row, whose block g is not the list's own. -/
def SgAt (w : World) (g : Nat) (l : List Sg) : Prop := ∀ k, k < l.length → SAt w g (k * 11) (l.getD k sgz)
theorem sgat_of {w : World} {g : Nat} {l : List Sg} (h : SgRow w (some ⟨g, 0, none⟩) l) : SgAt w g l := fun k hk => by
  rcases h with h | ⟨b, off, e, hc⟩
  · omega
  · cases e
    have := hc k hk
    rwa [Nat.zero_add] at this
theorem SgAt.below {w w' : World} {g : Nat} {l : List Sg} (h : SgAt w g l) (hb : Below w.heap.size w w') : SgAt w' g l := fun k hk => (h k hk).below hb
theorem sgL_app_one (l : List Sg) (s : Sg) : sgL (l ++ [s]) = sgL l ++ sgC s := by
  rw [sgL_app]
  simp [sgL]
theorem sgM_take {m : List Sg} {k : Nat} {i : Int} (hk : k < m.length) : (m.map (sgM i)).take (k + 1) = (m.map (sgM i)).take k ++ [sgM i (m.getD k sgz)] := by
  rw [List.take_succ_eq_append_getElem (by simpa using hk)]
  simp [List.getD, hk]
set_option maxRecDepth 100000 in
set_option maxHeartbeats 16000000 in
theorem behind_any (l m : List Sg) (i : Int) (B : Nat) (lo : Option Addr) (lc n N mg mc : Nat) (w : World) (hl : l.length = n) (hN : m.length = N) (hown : w.ownsRow B 65 11 (.slice lo n lc) n (sgL l)) (hB : B ≤ w.heap.size) (hm : SgAt w mg m) (hmg : mg < w.heap.size) (hne : ∀ a, lo = some a → a.block ≠ mg) (hn : n + N ≤ 1048576) :
    Calls Tryz.prog 41 #[.slice lo n lc, .int .i64 i, .slice (some ⟨mg, 0, none⟩) N mc] w fun e w' => ∃ lo' lc', e = .returned (.slice lo' (n + N) lc') ∧ w'.ownsRow B 65 11 (.slice lo' (n + N) lc') (n + N) (sgL (l ++ m.map (sgM i))) ∧ Below B w w' ∧ w.grownBy w' (Value.slice lo n lc).ownBlock := by
  have HN : Hid (m.length = N) := hN
  have HL : Hid (l.length = n) := hl
  have HT : Hid (l ++ m.map (sgM i) = l ++ (m.map (sgM i)).take N) := (show _ = _ by rw [← hN, List.take_of_length_le (by simp)])
  obtain ⟨i0, hi, hz0, hz1', hz2⟩ := info_span Tryz.infoSg
  have HM : Hid (∀ k, k < N → sgL (l ++ (m.map (sgM i)).take (k + 1)) = sgL (l ++ (m.map (sgM i)).take k) ++ sgC (sgM i (m.getD k sgz))) := (show ∀ k, k < N → _ = _ from fun k hk => by
    rw [← sgL_app_one, List.append_assoc, ← sgM_take (by rw [hN]; exact hk)])
  clear hl hN
  go_enter Tryz.func41, Tryz.ntmps41
  go_upto_region 2 with fail
  go_loopg [0, 11] N (fun g a v wr => ∃ (k : Nat) (lo' : Option Addr) (lc' : Nat), k ≤ N ∧ g = N - k ∧ a = .slice lo' (n + k) lc' ∧ v = .int .i64 k ∧ wr.ownsRow B 65 11 (.slice lo' (n + k) lc') (n + k) (sgL (l ++ (m.map (sgM i)).take k)) ∧ (∀ a, lo' = some a → a.block ≠ mg) ∧ SgAt wr mg m ∧ mg < wr.heap.size ∧ Below B w wr ∧ B ≤ wr.heap.size ∧ w.grownBy wr (Value.slice lo n lc).ownBlock ∧ (∀ q, (Value.slice lo' (n + k) lc').ownBlock = some q → w.heap.size ≤ q ∨ (Value.slice lo n lc).ownBlock = some q))
  case atStart => exact ⟨0, lo, lc, by omega, rfl, rfl, rfl, by simpa using hown, hne, hm, hmg, Below.refl _ _, hB, World.grownBy.refl _ _, fun q hq => Or.inr hq⟩
  case round =>
    obtain ⟨k, la, lc2, hk, hg, rfl, rfl, hO, hn2, hM, hg2, hb, hz, hgw, how⟩ := hrel
    have HG : Hid (gk = N - k) := hg
    clear hg hown hm hne
    by_cases hlt : k < N
    · obtain ⟨g0, g1, g2, g3, g4, g5, g6, g7, g8, g9, g10⟩ := hM k (by rw [HN.out]; exact hlt)
      have HMk : Hid (sgL (l ++ (m.map (sgM i)).take (k + 1)) = sgL (l ++ (m.map (sgM i)).take k) ++ sgC (sgM i (m.getD k sgz))) := HM.out k hlt
      obtain ⟨s, es⟩ : ∃ s, m.getD k sgz = s := ⟨_, rfl⟩
      rw [es] at g0 g1 g2 g3 g4 g5 g6 g7 g8 g9 g10 HMk
      generalize sgL (l ++ (m.map (sgM i)).take k) = xs at *
      have i1 : (k : Int) < (N : Int) := by omega
      have hst := run_storef Tryz.prog
      have n1 : mg ≠ wr.heap.size := by omega
      have n2 : ¬ mg = wr.heap.size := n1
      clear es
      go_upto_region 4 with fail
      go_upto_region 5 with fail
      have SB : SBox (wr.alloc (.cells #[.int .i64 i, .int .u8 s.k, .int .i64 s.r.r0, .int .i64 s.r.r1, .int .i64 s.r.r2, .int .i64 s.r.r3, .int .i64 s.r.r4, .int .i64 s.r.r5, .float .f64 s.a.1.1, .float .f64 s.a.1.2, .float .f64 s.a.2] 65)) wr.heap.size ⟨i, s.k, s.r, s.a⟩ := SBox.new wr ⟨i, s.k, s.r, s.a⟩ 65
      have st : Below wr.heap.size wr (wr.alloc (.cells #[.int .i64 i, .int .u8 s.k, .int .i64 s.r.r0, .int .i64 s.r.r1, .int .i64 s.r.r2, .int .i64 s.r.r3, .int .i64 s.r.r4, .int .i64 s.r.r5, .float .f64 s.a.1.1, .float .f64 s.a.1.2, .float .f64 s.a.2] 65)) := (Below.refl _ _).alloc (Nat.le_refl _) _
      have hO1 := jrown_below hO st
      have hM1 := hM.below st
      have hb1 := hb.trans (st.mono hz)
      have hlo := fun a ha => ownp_block hO a ha
      have hz1 : wr.heap.size < (wr.alloc (.cells #[.int .i64 i, .int .u8 s.k, .int .i64 s.r.r0, .int .i64 s.r.r1, .int .i64 s.r.r2, .int .i64 s.r.r3, .int .i64 s.r.r4, .int .i64 s.r.r5, .float .f64 s.a.1.1, .float .f64 s.a.1.2, .float .f64 s.a.2] 65)).heap.size := SB.lt
      have hB1 : B ≤ (wr.alloc (.cells #[.int .i64 i, .int .u8 s.k, .int .i64 s.r.r0, .int .i64 s.r.r1, .int .i64 s.r.r2, .int .i64 s.r.r3, .int .i64 s.r.r4, .int .i64 s.r.r5, .float .f64 s.a.1.1, .float .f64 s.a.1.2, .float .f64 s.a.2] 65)).heap.size := by omega
      have hgw1 : w.grownBy (wr.alloc (.cells #[.int .i64 i, .int .u8 s.k, .int .i64 s.r.r0, .int .i64 s.r.r1, .int .i64 s.r.r2, .int .i64 s.r.r3, .int .i64 s.r.r4, .int .i64 s.r.r5, .float .f64 s.a.1.1, .float .f64 s.a.1.2, .float .f64 s.a.2] 65)) (Value.slice lo n lc).ownBlock := hgw.trans (World.grownBy_alloc _ _ _)
      have hmz : mg < (wr.alloc (.cells #[.int .i64 i, .int .u8 s.k, .int .i64 s.r.r0, .int .i64 s.r.r1, .int .i64 s.r.r2, .int .i64 s.r.r3, .int .i64 s.r.r4, .int .i64 s.r.r5, .float .f64 s.a.1.1, .float .f64 s.a.1.2, .float .f64 s.a.2] 65)).heap.size := by omega
      clear hst hO hM st hb g0 g1 g2 g3 g4 g5 g6 g7 g8 g9 g10
      generalize wr.alloc (.cells #[.int .i64 i, .int .u8 s.k, .int .i64 s.r.r0, .int .i64 s.r.r1, .int .i64 s.r.r2, .int .i64 s.r.r3, .int .i64 s.r.r4, .int .i64 s.r.r5, .float .f64 s.a.1.1, .float .f64 s.a.1.2, .float .f64 s.a.2] 65) = W1 at *
      obtain ⟨x0, x1, x2, x3, x4, x5, x6, x7, x8, x9, x10⟩ := SB.at0
      simp only [Nat.zero_add] at x0 x1 x2 x3 x4 x5 x6 x7 x8 x9 x10
      have ho1 : B ≤ (W1.alloc (.cells #[.int .i64 i, .int .u8 s.k, .int .i64 s.r.r0, .int .i64 s.r.r1, .int .i64 s.r.r2, .int .i64 s.r.r3, .int .i64 s.r.r4, .int .i64 s.r.r5, .float .f64 s.a.1.1, .float .f64 s.a.1.2, .float .f64 s.a.2] 65)).heap.size := by simp; omega
      go_wp2_with (at_builtin; refine wpList_append_own_at _ rfl _ _ 56 rfl B 65 i0 (.agg #[.int .i64 0, .int .u8 0, .int .i64 0, .int .i64 0, .int .i64 0, .int .i64 0, .int .i64 0, .int .i64 0, .float .f64 0, .float .f64 0, .float .f64 0]) 11 88 Tryz.underlying56 hi hz0 hz1' hz2 rfl (by decide) _ _ _ rfl (World.ownsRow.alloc hO1 _) _ 1 1 [.int .i64 i, .int .u8 s.k, .int .i64 s.r.r0, .int .i64 s.r.r1, .int .i64 s.r.r2, .int .i64 s.r.r3, .int .i64 s.r.r4, .int .i64 s.r.r5, .float .f64 s.a.1.1, .float .f64 s.a.1.2, .float .f64 s.a.2] rfl rfl (World.news_of_block (cs := #[.int .i64 i, .int .u8 s.k, .int .i64 s.r.r0, .int .i64 s.r.r1, .int .i64 s.r.r2, .int .i64 s.r.r3, .int .i64 s.r.r4, .int .i64 s.r.r5, .float .f64 s.a.1.1, .float .f64 s.a.1.2, .float .f64 s.a.2]) (t := 65) (fr := (0, 0)) (heap_alloc_new _ _)) (by simp [Value.oneCell']) (by unfold maxLen; omega) (by omega) ho1 ?_; intro v' w5 hown5 hgrow _ hat; obtain ⟨g', cap', rfl⟩ := ownp_shape hown5)
      have hgr : (W1.alloc (.cells #[.int .i64 i, .int .u8 s.k, .int .i64 s.r.r0, .int .i64 s.r.r1, .int .i64 s.r.r2, .int .i64 s.r.r3, .int .i64 s.r.r4, .int .i64 s.r.r5, .float .f64 s.a.1.1, .float .f64 s.a.1.2, .float .f64 s.a.2] 65)).grownBy w5 (Value.slice la (n + k) lc2).ownBlock := hgrow
      have hat2 : some g' = (Value.slice la (n + k) lc2).ownBlock ∨ some g' = some (W1.alloc (.cells #[.int .i64 i, .int .u8 s.k, .int .i64 s.r.r0, .int .i64 s.r.r1, .int .i64 s.r.r2, .int .i64 s.r.r3, .int .i64 s.r.r4, .int .i64 s.r.r5, .float .f64 s.a.1.1, .float .f64 s.a.1.2, .float .f64 s.a.2] 65)).heap.size := hat
      have hob : ∀ q, (Value.slice la (n + k) lc2).ownBlock = some q → q ≠ mg := fun q hq => by
        cases la with
        | none => cases hq
        | some a =>
          have := hn2 a rfl
          obtain rfl : a.block = q := Option.some.inj hq
          exact this
      have hg3 : g' ≠ mg := fun e => by
        rcases hat2 with h | h
        · exact hob g' h.symm e
        · have := Option.some.inj h
          simp at this
          omega
      have hM5 : SgAt w5 mg m := fun q hq => ((hM1 q hq).below ((Below.refl _ _).alloc (Nat.le_refl _) _)).grown hgr (fun e => hob mg e.symm rfl)
      have hb5 : Below B w w5 := (hb1.alloc hB1 _).grown hgr ho1 (fun j hj => (hO1.lt j hj).1)
      have hz5 := Nat.le_trans ho1 hgr.size
      have hm5 : mg < w5.heap.size := Nat.lt_of_lt_of_le hmz (Nat.le_trans (by simp) hgr.size)
      have hgw5 : w.grownBy w5 (Value.slice lo n lc).ownBlock := (hgw1.trans (World.grownBy_alloc W1 (.cells #[.int .i64 i, .int .u8 s.k, .int .i64 s.r.r0, .int .i64 s.r.r1, .int .i64 s.r.r2, .int .i64 s.r.r3, .int .i64 s.r.r4, .int .i64 s.r.r5, .float .f64 s.a.1.1, .float .f64 s.a.1.2, .float .f64 s.a.2] 65) _)).andThen hgr how
      have how5 : ∀ q, (Value.slice (some ⟨g', 0, none⟩) (n + k + 1) cap').ownBlock = some q → w.heap.size ≤ q ∨ (Value.slice lo n lc).ownBlock = some q := fun q hq => by
        obtain rfl : g' = q := Option.some.inj hq
        rcases hat2 with h | h
        · exact how _ h.symm
        · have := Option.some.inj h
          have := hgw1.size
          simp at *
          omega
      clear hgrow hat hgr hat2 hM1 hb1 hO1 hob hgw1 how hgw
      go_roundg (N - (k + 1))
      case measure => rw [HG.out]; omega
      case rel => exact ⟨k + 1, _, _, by omega, rfl, rfl, by go_num, by rw [HMk.out]; exact hown5, (fun a ha => by cases ha; exact hg3), hM5, hm5, hb5, hz5, hgw5, how5⟩
    · have e : k = N := by omega
      subst e
      have i1 : ¬ (k : Int) < (k : Int) := by omega
      go_wp2
      go_ret
      exact ⟨la, lc2, rfl, by rw [HT.out]; exact hO, hb, hgw⟩
end Go.Proofs.YtomohmjjaijlbaaGreatDoor

namespace Go.Proofs.YtomohmjjaijlbaaGreatDoor
open Go.RowKit

/-- The springs of the first k members. -/
def sgAll (ls : Nat → List Sg) : Nat → List Sg
  | 0 => []
  | k + 1 => sgAll ls k ++ (ls k).map (sgM k)
theorem sgAll_le (ls : Nat → List Sg) (h : ∀ k, (ls k).length ≤ 3) (k : Nat) : (sgAll ls k).length ≤ 3 * k := by
  induction k with
  | zero => simp [sgAll]
  | succ n ih =>
    have := h n
    simp only [sgAll, List.length_append, List.length_map]
    omega
theorem JRow.at {w : World} {b off : Nat} {js : List Jn} (h : JRow w (some ⟨b, off, none⟩) js) {k : Nat} (hk : k < js.length) : w.cell? ⟨b, off + k * 4, none⟩ = some (.string (js.getD k jz).1) ∧ w.cell? ⟨b, off + k * 4 + 1, none⟩ = some (.int .i32 (js.getD k jz).2.1) ∧ w.cell? ⟨b, off + k * 4 + 2, none⟩ = some (.int .i32 (js.getD k jz).2.2.1) ∧ w.cell? ⟨b, off + k * 4 + 3, none⟩ = some (.int .u8 (js.getD k jz).2.2.2) := by
  rcases h with h | ⟨b', off', e, hc⟩
  · omega
  · cases e
    exact hc k hk
theorem JRow.addr {w : World} {ao : Option Addr} {js : List Jn} (h : JRow w ao js) {k : Nat} (hk : k < js.length) : ∃ b off, ao = some ⟨b, off, none⟩ := by
  rcases h with h | ⟨b', off', e, _⟩
  · omega
  · exact ⟨b', off', e⟩
/-- What Springs hands back. -/
def SgsGave (w : World) (l : List Sg) (e : Ending) (w' : World) : Prop := ∃ lo lc, e = .returned (.tuple #[.slice lo l.length lc, .int .i64 0]) ∧ SgRow w' lo l ∧ Below w.heap.size w w'
set_option maxRecDepth 100000 in
set_option maxHeartbeats 32000000 in
theorem bsprings_any (js : List Jn) (ms : List Mb) (ao mo : Option Addr) (ac mc : Nat) (w : World) (hr : JRow w ao js) (hw : JWs js) (hn : js.length ≤ 1125899906842624) (mr : MRow w mo ms) (mw : MWs ms) (mn : ms.length ≤ 48) (hc : cpA js ms = (0, 0))
    (ls : Nat → List Sg) (hll : ∀ k, 1 ≤ (ls k).length ∧ (ls k).length ≤ 3) (hen : ∀ k, k < ms.length → (0 ≤ (ms.getD k mz).a ∧ (ms.getD k mz).a < js.length) ∧ (0 ≤ (ms.getD k mz).b ∧ (ms.getD k mz).b < js.length))
    (hS : ∀ k, k < ms.length → ∀ w, TabW w → Calls Tryz.prog 42 #[mV (ms.getD k mz), jV (js.getD (ms.getD k mz).a.toNat jz), jV (js.getD (ms.getD k mz).b.toNat jz)] w (SgTold w (ls k))) (hT : TabW w) :
    Calls Tryz.prog 23 #[.agg #[.slice ao js.length ac, .slice mo ms.length mc]] w (SgsGave w (sgAll ls ms.length)) := by
  have cc := fun w' (h : Below w.heap.size w w') => bcheck_any js ms ao mo ac mc w' (hr.below h) hw hn (mr.below h) mw (by omega)
  rw [hc] at cc
  simp only at cc
  have HRJ : ∀ W, Below w.heap.size w W → JRow W ao js := fun W h => hr.below h
  have HRM : ∀ W, Below w.heap.size w W → MRow W mo ms := fun W h => mr.below h
  obtain ⟨N, hN⟩ : ∃ N, ms.length = N := ⟨_, rfl⟩
  obtain ⟨A, hA⟩ : ∃ A, js.length = A := ⟨_, rfl⟩
  have HN : Hid (ms.length = N) := hN
  have HA : Hid (js.length = A) := hA
  have HS : Hid (∀ k, k < N → ∀ w, TabW w → Calls Tryz.prog 42 #[mV (ms.getD k mz), jV (js.getD (ms.getD k mz).a.toNat jz), jV (js.getD (ms.getD k mz).b.toNat jz)] w (SgTold w (ls k))) := (show ∀ k, k < N → _ from fun k hk => hS k (by rw [hN]; exact hk))
  have HE : Hid (∀ k, k < N → (0 ≤ (ms.getD k mz).a ∧ (ms.getD k mz).a < A) ∧ (0 ≤ (ms.getD k mz).b ∧ (ms.getD k mz).b < A)) := (show ∀ k, k < N → _ from fun k hk => by have := hen k (by rw [hN]; exact hk); rw [hA] at this; exact this)
  have HLL := sgAll_le ls (fun k => (hll k).2)
  rw [hN] at cc mn ⊢
  rw [hA] at cc hn ⊢
  have X0 := PBox.new w (.slice ao A ac) (.slice mo N mc) 25
  have hb0 : Below w.heap.size w (w.alloc (.cells #[.slice ao A ac, .slice mo N mc] 25)) := (Below.refl _ _).alloc (Nat.le_refl _) _
  clear hS hen hc hr mr hN hA hn
  go_enter Tryz.func23, Tryz.ntmps23
  go_upto_region 1 with fail
  generalize w.alloc (.cells #[.slice ao A ac, .slice mo N mc] 25) = W0 at *
  obtain ⟨x0, x1, _, _, _⟩ := id X0
  go_upto_region 2 with (go_at_call 5; refine (cc _ hb0).mono ?_; rintro e w1 ⟨rfl, b1⟩)
  replace X0 := X0.below b1
  have hb1 := hb0.trans (b1.mono hb0.size)
  clear x0 x1 b1 hb0 cc
  obtain ⟨x0, x1, _, _, _⟩ := id X0
  go_upto_region 6 with fail
  have hz0 : w.heap.size < w1.heap.size := X0.lt
  go_loopg [6, 20] N (fun g a v wr => ∃ (k : Nat) (lo : Option Addr) (lc : Nat), k ≤ N ∧ g = N - k ∧ a = .slice lo (sgAll ls k).length lc ∧ v = .int .i64 k ∧ wr.ownsRow w1.heap.size 65 11 (.slice lo (sgAll ls k).length lc) (sgAll ls k).length (sgL (sgAll ls k)) ∧ Below w1.heap.size w1 wr ∧ w1.heap.size ≤ wr.heap.size)
  case atStart => exact ⟨0, none, 0, by omega, rfl, rfl, rfl, World.ownsRow_nil _ _ _ _, Below.refl _ _, Nat.le_refl _⟩
  case round =>
    obtain ⟨k, la, lc, hk, hg, rfl, rfl, hO, hbr, hz⟩ := hrel
    have HG : Hid (gk = N - k) := hg
    clear hg
    have hbx := hb1.trans (hbr.mono (by omega : w.heap.size ≤ w1.heap.size))
    have XR := X0.below hbr
    have hle := HLL k
    by_cases hlt : k < N
    · rcases HRM _ hbx with h | ⟨b, off, rfl, hc⟩
      · exact absurd (HN.out ▸ h) (by omega)
      · have gm := hc k (by rw [HN.out]; exact hlt)
        have cS := HS.out k hlt
        have hEn := HE.out k hlt
        obtain ⟨m, ex⟩ : ∃ m, ms.getD k mz = m := ⟨_, rfl⟩
        rw [ex] at gm cS hEn
        obtain ⟨⟨a0, a1⟩, b0, b1⟩ := hEn
        have hja := HRJ _ hbx
        obtain ⟨jb, jo, rfl⟩ := hja.addr (k := m.a.toNat) (by rw [HA.out]; omega)
        have ga := hja.at (k := m.a.toNat) (by rw [HA.out]; omega)
        have gb := hja.at (k := m.b.toNat) (by rw [HA.out]; omega)
        obtain ⟨⟨s1, p1, q1', f1⟩, e1⟩ : ∃ j, js.getD m.a.toNat jz = j := ⟨_, rfl⟩
        obtain ⟨⟨s2, p2, q2', f2⟩, e2⟩ : ∃ j, js.getD m.b.toNat jz = j := ⟨_, rfl⟩
        rw [e1, e2] at cS
        rw [e1] at ga
        rw [e2] at gb
        simp only at ga gb
        obtain ⟨na, hna⟩ : ∃ n : Nat, m.a.toNat = n := ⟨_, rfl⟩
        obtain ⟨nb, hnb⟩ : ∃ n : Nat, m.b.toNat = n := ⟨_, rfl⟩
        have ea : m.a = (na : Int) := by omega
        have eb : m.b = (nb : Int) := by omega
        rw [hna] at ga
        rw [hnb] at gb
        have MX := MBox.new wr m 46
        have st : Below wr.heap.size wr (wr.alloc (mO m 46)) := (Below.refl _ _).alloc (Nat.le_refl _) _
        obtain ⟨ms', kd, xa, xb, ha, hb, xe, xr, xi⟩ := m
        simp only at ea eb
        subst ea eb
        unfold mV jV at cS
        unfold mO at MX st
        simp only at *
        obtain ⟨g0, g1, g2, g3, g4, g5, g6, g7, g8⟩ := gm
        simp only at g0 g1 g2 g3 g4 g5 g6 g7 g8
        have hbl : b < wr.heap.size := World.block_lt_of_cell? _ _ g0
        have hjl : jb < wr.heap.size := World.block_lt_of_cell? _ _ ga.1
        have n1 : b ≠ wr.heap.size := by omega
        have n2 : jb ≠ wr.heap.size := by omega
        have i1 : (k : Int) < (N : Int) := by omega
        have hst := run_storef Tryz.prog
        obtain ⟨x0, x1, _, _, xl⟩ := id XR
        clear hc ex e1 e2 hna hnb hja
        go_upto_region 8 with fail
        clear hst g0 g1 g2 g3 g4 g5 g6 g7 g8 xl x0 x1
        have ga' := ga
        have gb' := gb
        obtain ⟨u0, u1, u2, u3⟩ := ga
        obtain ⟨v0, v1, v2, v3⟩ := gb
        have q0 := (st.cell (p := ⟨jb, jo + na * 4, none⟩) hjl).trans u0
        have q1 := (st.cell (p := ⟨jb, jo + na * 4 + 1, none⟩) hjl).trans u1
        have q2 := (st.cell (p := ⟨jb, jo + na * 4 + 2, none⟩) hjl).trans u2
        have q3 := (st.cell (p := ⟨jb, jo + na * 4 + 3, none⟩) hjl).trans u3
        have r0 := (st.cell (p := ⟨jb, jo + nb * 4, none⟩) hjl).trans v0
        have r1 := (st.cell (p := ⟨jb, jo + nb * 4 + 1, none⟩) hjl).trans v1
        have r2 := (st.cell (p := ⟨jb, jo + nb * 4 + 2, none⟩) hjl).trans v2
        have r3 := (st.cell (p := ⟨jb, jo + nb * 4 + 3, none⟩) hjl).trans v3
        have XV := XR.below st
        have hO1 := jrown_below hO st
        have hbs := hbr.trans (st.mono hz)
        have hzs := Nat.le_trans hz st.size
        have hlo := fun a ha => (ownp_block hO a ha).2
        have hlk := hll k
        clear u0 u1 u2 u3 v0 v1 v2 v3 XR hO st ga' gb'
        generalize wr.alloc (.cells #[.string ms', .int .u8 kd, .int .i64 na, .int .i64 nb, .bool ha, .bool hb, .float .f64 xe, .float .f64 xr, .float .f64 xi] 46) = V1 at *
        obtain ⟨y0, y1, y2, y3, y4, y5, y6, y7, y8⟩ := MX.at0
        simp only [Nat.zero_add] at y0 y1 y2 y3 y4 y5 y6 y7 y8
        obtain ⟨x0, x1, _, _, xl⟩ := id XV
        have hV : wr.heap.size < V1.heap.size := MX.lt
        have TV := tabW_below hT (hb1.trans (hbs.mono (by omega : w.heap.size ≤ w1.heap.size)))
        have TD := tabW_below TV (Below.refl V1.heap.size V1).drew
        have i3 : (na : Int) < (A : Int) := by omega
        have i4 : (nb : Int) < (A : Int) := by omega
        obtain ⟨n0, hn0⟩ : ∃ n, (sgAll ls k).length = n := ⟨_, rfl⟩
        have HN0 : Hid ((sgAll ls k).length = n0) := hn0
        obtain ⟨n9, hn9⟩ : ∃ n, (ls k).length = n := ⟨_, rfl⟩
        have HN9 : Hid ((ls k).length = n9) := hn9
        rw [hn0] at hO1 hle
        rw [hn9] at hlk
        have cS2 : ∀ w, TabW w → Calls Tryz.prog 42 #[.agg #[.string ms', .int .u8 kd, .int .i64 na, .int .i64 nb, .bool ha, .bool hb, .float .f64 xe, .float .f64 xr, .float .f64 xi], .agg #[.string s1, .int .i32 p1, .int .i32 q1', .int .u8 f1], .agg #[.string s2, .int .i32 p2, .int .i32 q2', .int .u8 f2]] w (fun e w' => ∃ g c, e = .returned (.slice (some ⟨g, 0, none⟩) n9 c) ∧ SgAt w' g (ls k) ∧ Below w.heap.size w w' ∧ w.heap.size ≤ g) := fun w hW => (cS w hW).mono fun e w' h => by
          obtain ⟨g, c, h1, h2, h3, h4⟩ := h
          exact ⟨g, c, by rw [h1, hn9], sgat_of h2, h3, h4⟩
        have cB : ∀ (g c : Nat) (W : World), W.ownsRow w1.heap.size 65 11 (.slice la n0 lc) n0 (sgL (sgAll ls k)) → w1.heap.size ≤ W.heap.size → SgAt W g (ls k) → wr.heap.size ≤ g → Calls Tryz.prog 41 #[.slice la n0 lc, .int .i64 k, .slice (some ⟨g, 0, none⟩) n9 c] W fun e w' => ∃ lo' lc', e = .returned (.slice lo' (n0 + n9) lc') ∧ w'.ownsRow w1.heap.size 65 11 (.slice lo' (n0 + n9) lc') (n0 + n9) (sgL (sgAll ls (k + 1))) ∧ Below w1.heap.size W w' ∧ W.grownBy w' (Value.slice la n0 lc).ownBlock := fun g c W h1 h2 h3 h4 => behind_any (sgAll ls k) (ls k) k w1.heap.size la lc n0 n9 g c W hn0 hn9 h1 h2 h3 (by have := (h3 0 (by omega)).lt; exact this) (fun a ha => by have := hlo a ha; omega) (by omega)
        have hjV : jb < V1.heap.size := by omega
        have hjw : jb < w.heap.size := by
          have h1 := (HRJ w (Below.refl _ _)).at (k := na) (by rw [HA.out]; omega)
          exact World.block_lt_of_cell? _ _ h1.1
        have hown := fun q (hq : (Value.slice la n0 lc).ownBlock = some q) => (hO1.lt q hq).1
        have hown2 : ∀ q, (Value.slice la n0 lc).ownBlock = some q → q < wr.heap.size := fun q hq => by
          cases la with
          | none => cases hq
          | some a =>
            have := hlo a rfl
            obtain rfl : a.block = q := Option.some.inj hq
            exact this
        have neP : some w.heap.size ≠ (Value.slice la n0 lc).ownBlock := fun e => by have := hown _ e.symm; omega
        have neM : some wr.heap.size ≠ (Value.slice la n0 lc).ownBlock := fun e => by have := hown2 _ e.symm; omega
        have neJ : some jb ≠ (Value.slice la n0 lc).ownBlock := fun e => by have := hown _ e.symm; omega
        clear cS hn9 hlo hlk hown hown2 hjw
        rw [hn0]
        clear hn0
        have D1 := (Below.refl V1.heap.size V1).drew
        have hO2 := jrown_below hO1 D1
        go_region_held3 (fun w' => w'.cell? ⟨w.heap.size, 0, none⟩ = some (.slice (some ⟨jb, jo, none⟩) A ac) ∧ w'.cell? ⟨wr.heap.size, 0, none⟩ = some (.string ms') ∧ w'.cell? ⟨wr.heap.size, 1, none⟩ = some (.int .u8 kd) ∧ w'.cell? ⟨wr.heap.size, 2, none⟩ = some (.int .i64 na) ∧ w'.cell? ⟨wr.heap.size, 3, none⟩ = some (.int .i64 nb) ∧ w'.cell? ⟨wr.heap.size, 4, none⟩ = some (.bool ha) ∧ w'.cell? ⟨wr.heap.size, 5, none⟩ = some (.bool hb) ∧ w'.cell? ⟨wr.heap.size, 6, none⟩ = some (.float .f64 xe) ∧ w'.cell? ⟨wr.heap.size, 7, none⟩ = some (.float .f64 xr) ∧ w'.cell? ⟨wr.heap.size, 8, none⟩ = some (.float .f64 xi) ∧ w'.cell? ⟨jb, jo + na * 4, none⟩ = some (.string s1) ∧ w'.cell? ⟨jb, jo + na * 4 + 1, none⟩ = some (.int .i32 p1) ∧ w'.cell? ⟨jb, jo + na * 4 + 2, none⟩ = some (.int .i32 q1') ∧ w'.cell? ⟨jb, jo + na * 4 + 3, none⟩ = some (.int .u8 f1) ∧ w'.cell? ⟨jb, jo + nb * 4, none⟩ = some (.string s2) ∧ w'.cell? ⟨jb, jo + nb * 4 + 1, none⟩ = some (.int .i32 p2) ∧ w'.cell? ⟨jb, jo + nb * 4 + 2, none⟩ = some (.int .i32 q2') ∧ w'.cell? ⟨jb, jo + nb * 4 + 3, none⟩ = some (.int .u8 f2)) (go_keep)
          (first
          | (go_at_call 42; refine (cS2 _ TD).mono ?_; rintro e w3 ⟨g, c, rfl, rs, b3, lg⟩; have hO3 := jrown_below hO2 b3; have b13 := D1.trans b3; have hz3 : w1.heap.size ≤ w3.heap.size := Nat.le_trans hzs b13.size; have lg2 : wr.heap.size ≤ g := Nat.le_trans (Nat.le_of_lt hV) (Nat.le_trans D1.size lg); have ka0 := (b13.cell (p := ⟨w.heap.size, 0, none⟩) xl).trans x0; have ka1 := (b13.cell (p := ⟨wr.heap.size, 0, none⟩) hV).trans y0; have ka2 := (b13.cell (p := ⟨wr.heap.size, 1, none⟩) hV).trans y1; have ka3 := (b13.cell (p := ⟨wr.heap.size, 2, none⟩) hV).trans y2; have ka4 := (b13.cell (p := ⟨wr.heap.size, 3, none⟩) hV).trans y3; have ka5 := (b13.cell (p := ⟨wr.heap.size, 4, none⟩) hV).trans y4; have ka6 := (b13.cell (p := ⟨wr.heap.size, 5, none⟩) hV).trans y5; have ka7 := (b13.cell (p := ⟨wr.heap.size, 6, none⟩) hV).trans y6; have ka8 := (b13.cell (p := ⟨wr.heap.size, 7, none⟩) hV).trans y7; have ka9 := (b13.cell (p := ⟨wr.heap.size, 8, none⟩) hV).trans y8; have ka10 := (b13.cell (p := ⟨jb, jo + na * 4, none⟩) hjV).trans q0; have ka11 := (b13.cell (p := ⟨jb, jo + na * 4 + 1, none⟩) hjV).trans q1; have ka12 := (b13.cell (p := ⟨jb, jo + na * 4 + 2, none⟩) hjV).trans q2; have ka13 := (b13.cell (p := ⟨jb, jo + na * 4 + 3, none⟩) hjV).trans q3; have ka14 := (b13.cell (p := ⟨jb, jo + nb * 4, none⟩) hjV).trans r0; have ka15 := (b13.cell (p := ⟨jb, jo + nb * 4 + 1, none⟩) hjV).trans r1; have ka16 := (b13.cell (p := ⟨jb, jo + nb * 4 + 2, none⟩) hjV).trans r2; have ka17 := (b13.cell (p := ⟨jb, jo + nb * 4 + 3, none⟩) hjV).trans r3)
          | (go_at_call 41; refine (cB _ _ _ hO3 hz3 rs lg2).mono ?_; rintro e w4 ⟨lo', lc', rfl, hO4, b4, hg4⟩; have kb0 := hg4.cell ka0 neP; have kb1 := hg4.cell ka1 neM; have kb2 := hg4.cell ka2 neM; have kb3 := hg4.cell ka3 neM; have kb4 := hg4.cell ka4 neM; have kb5 := hg4.cell ka5 neM; have kb6 := hg4.cell ka6 neM; have kb7 := hg4.cell ka7 neM; have kb8 := hg4.cell ka8 neM; have kb9 := hg4.cell ka9 neM; have kb10 := hg4.cell ka10 neJ; have kb11 := hg4.cell ka11 neJ; have kb12 := hg4.cell ka12 neJ; have kb13 := hg4.cell ka13 neJ; have kb14 := hg4.cell ka14 neJ; have kb15 := hg4.cell ka15 neJ; have kb16 := hg4.cell ka16 neJ; have kb17 := hg4.cell ka17 neJ))
        have HL1 : Hid ((sgAll ls (k + 1)).length = n0 + n9) := (show _ = _ by rw [sgAll, List.length_append, List.length_map, HN0.out, HN9.out])
        have hb4 := (hbs.trans (b13.mono hzs)).trans b4
        have hz4 : w1.heap.size ≤ w4.heap.size := Nat.le_trans hz3 b4.size
        clear x0 y0 y1 y2 y3 y4 y5 y6 y7 y8 q0 q1 q2 q3 r0 r1 r2 r3 cS2 cB hO1 hO2 hO3 rs b3 b13 hg4
        go_wp2
        go_roundg (N - (k + 1))
        case measure => rw [HG.out]; omega
        case rel => exact ⟨k + 1, lo', lc', by omega, rfl, by rw [HL1.out], by go_num, by rw [HL1.out]; exact hO4, hb4, hz4⟩
    · have e : k = N := by omega
      subst e
      have i1 : ¬ (k : Int) < (k : Int) := by omega
      obtain ⟨x0, x1, _, _, xl⟩ := id XR
      go_wp2
      exact bodyPost_ret (v := .tuple #[.slice la (sgAll ls k).length lc, .int .i64 0]) (by simp [results, Tryz.results23]) rfl ⟨la, lc, rfl, sg_own hO rfl, hbx⟩
end Go.Proofs.YtomohmjjaijlbaaGreatDoor
