/- bars.Unknowns of the plan of one beam. -/
import Derived.Test.YtfipmopmpacdaaaGreatDoorBar23
import Derived.Test.YtfipmopmpacdaaaGreatDoorBE
import Derived.Test.YtfipmopmpacdaaaGreatDoorBD
import Derived.Deep.AppendLies
import Derived.Maps.AppendAt
import Derived.Maps.Range
import Derived.Test.YtfipmopmpacdaaaGreatDoorBA
import Derived.LoopN
import Derived.Laws.MakeOwn
namespace Go.Proofs.YtfipmopmpacdaaaGreatDoor
open Go.RowKit
theorem cp_one {a b : Am} {K L : Nat × Nat} (ha : Amt a K) (hb : Amt b L) (k : PosK K) (l : PosK L) : CP a [b] 1 (aM a b) := fun ao w hr hT => by
 have o := (amt_mul ha hb k l rfl).2
 have h := bproduct_any a [b] (fun j => if j = 0 then a else aM a b) rfl (fun j hj => by
  obtain rfl : j = 0 := by simp at hj; omega
  exact mul_C ha.rt hb.rt) (fun j hj => by
  obtain rfl : j = 0 := by simp at hj; omega
  exact (rmul_P 0 ha.fn.1 hb.fn.1 o).2) ao 1 w hr (by simp) hT
 exact h
theorem cp_two {a b c : Am} {K L M : Nat × Nat} (ha : Amt a K) (hb : Amt b L) (hc : Amt c M) (k : PosK K) (l : PosK L) (m : PosK M) {N : Nat × Nat} (hN : muP K L = N) (n : PosK N) : CP a [b, c] 2 (aM (aM a b) c) := fun ao w hr hT => by
 obtain ⟨h1, o1⟩ := amt_mul ha hb k l hN
 have o2 := (amt_mul h1 hc n m rfl).2
 have h := bproduct_any a [b, c] (fun j => if j = 0 then a else if j = 1 then aM a b else aM (aM a b) c) rfl (fun j hj => by
  rcases (show j = 0 ∨ j = 1 by simp at hj; omega) with rfl | rfl
  ·exact mul_C ha.rt hb.rt
  ·exact mul_C h1.rt hc.rt) (fun j hj => by
  rcases (show j = 0 ∨ j = 1 by simp at hj; omega) with rfl | rfl
  ·exact (rmul_P 0 ha.fn.1 hb.fn.1 o1).2
  ·exact (rmul_P 0 h1.fn.1 hc.fn.1 o2).2) ao 2 w hr (by simp) hT
 exact h
theorem cq_one {a b : Am} {K L : Nat × Nat} (ha : Amt a K) (hb : Amt b L) (k : PosK K) (l : PosK L) : CQ a b (aD a b) := fun w hT => by
 have o := (amt_div ha hb k l rfl).2
 exact bquotient_any a b (aD a b) (div_C ha.rt hb.rt (hb.pos l).mid) (rdiv_P 0 ha.fn.1 hb.fn.1 o).2 w hT
theorem amt_three : Amt (aX 4613937818241073152) k3 := amt_one ⟨by decide, by decide⟩ (by decide) (by decide) (by decide) (by decide)
theorem spK_is (m : Mb) (p q : Jn) : spK m p q = spL m (aptA p q).1 (aptA p q).2.1 (aptA p q).2.2 (axA (aR (l2F p q)) (l2F p q) m.e m.ar) (acA (aR (l2F p q)) (l2F p q) m.e m.i) (enA (aR (l2F p q)) m.e m.i) := rfl
theorem springs_any (m : Mb) (hm : MW m) (p q : Jn) (hl : (aptA p q).2.2 ≠ 0) (he : nbB m.e = true) (ha : nbB m.ar = true) (hi : m.kd ≠ 1 → nbB m.i = true) (w : World) (hT : TabW w) :
  Calls Tryz.prog 17 #[mV m, jV p, jV q] w (SgTold w (spK m p q)) := by
 obtain ⟨aS, aL, fS, lS⟩ := amt_len rfl p q hl
 obtain ⟨b1, b2⟩ := aptA_bd2 p q
 have aE := amt_num hm.e he
 have aA := amt_num hm.ar ha
 have hP := (amt_mul aE aA pos_k60 pos_k60 is_kP).1
 have hSL := (amt_mul aS aL pos_kSq pos_kLn is_kSL).1
 rw [spK_is]
 refine springs_walk m p q _ _ _ b1 b2 (l2F p q) rfl (aR (l2F p q)) (aX (l2F p q)) (aX m.e) (aX m.ar) (aM (aX m.e) (aX m.ar)) (aM (aX (l2F p q)) (aR (l2F p q))) _ (aM (aX m.e) (aX m.i)) _ _ (fun w => apart_any p q w) (fun w hT => blength_any p q w hT) (fun w => bexact_any _ lS fS w) (fun w => bexact_any _ hm.e (num_fin hm.e he) w) (fun w => bexact_any _ hm.ar (num_fin hm.ar ha) w)
  (cp_one aE aA pos_k60 pos_k60) (cp_one aS aL pos_kSq pos_kLn) (cq_one hP hSL pos_kP pos_kSL) (fun k r a w => bspring_any k r a w) ?_ w hT
 by_cases hk : m.kd = 1
 ·exact Or.inl (Or.inl hk)
 ·have aI := amt_num hm.i (hi hk)
  have hB := (amt_mul aE aI pos_k60 pos_k60 is_kP).1
  have hB3 := (amt_mul amt_three hB pos_k3 pos_kP is_kB3).1
  have hSS := (amt_mul aS aS pos_kSq pos_kSq is_kSS).1
  have hSSL := (amt_mul hSS aL pos_kSS pos_kLn is_kSSL).1
  exact Or.inr ⟨aX m.i, aX 4613937818241073152, aM (aX 4613937818241073152) (aM (aX m.e) (aX m.i)), aM (aM (aX (l2F p q)) (aX (l2F p q))) (aR (l2F p q)),
   fun w => bexact_any _ hm.i (num_fin hm.i (hi hk)) w, cp_one aE aI pos_k60 pos_k60, fun w => bexact_any _ (by decide) (by decide) w, cp_one amt_three hB pos_k3 pos_kP, cp_two aS aS aL pos_kSq pos_kSq pos_kLn is_kSS pos_kSS, cq_one hB3 hSSL pos_kB3 pos_kSSL, cq_one hB aL pos_kP pos_kLn⟩
theorem Tryz.infoSg : (Tryz.prog.info? 45).map (fun i => (i.zero, i.size, i.bytes)) = some (some (.agg #[.int .i64 0, .int .u8 0, .int .i64 0, .int .i64 0, .int .i64 0, .int .i64 0, .int .i64 0, .int .i64 0, .float .f64 0, .float .f64 0, .float .f64 0]), 11, 88) := by kernel_rfl
def sgL : List Sg → List Value
 | [] => []
 | s :: l => sgC s ++ sgL l
theorem sgL_app : ∀ l m : List Sg, sgL (l ++ m) = sgL l ++ sgL m
 | [], _ => rfl
 | s :: l, m => by simp only [List.cons_append, sgL, sgL_app l m, List.append_assoc]
theorem sgL_at : ∀ (l : List Sg) (j i : Nat), j < l.length → i < 11 → (sgL l)[j * 11 + i]? = (sgC (l.getD j sgz))[i]?
 | [], _, _, h, _ => by simp at h
 | s :: l, 0, i, _, hi => by
  simp only [sgL, Nat.zero_mul, Nat.zero_add]
  rw [List.getElem?_append_left (by simpa using hi)]
  simp
 | s :: l, j + 1, i, h, hi => by
  have := sgL_at l j i (by simpa using h) hi
  simp only [sgL]
  rw [List.getElem?_append_right (by simp; omega)]
  simp only [List.length_cons, List.length_nil]
  rw [show (j + 1) * 11 + i - (0 + 1 + 1 + 1 + 1 + 1 + 1 + 1 + 1 + 1 + 1 + 1) = j * 11 + i by omega, this]
  simp
def sgM (i : Int) (s : Sg) : Sg := ⟨i, s.k, s.r, s.a⟩
theorem sg_own {w : World} {B lc : Nat} {lo : Option Addr} {l : List Sg} {n : Nat} (h : w.ownsRow B 45 11 (.slice lo n lc) n (sgL l)) (hl : l.length = n) : SgRow w lo l := by
 rcases Nat.eq_zero_or_pos n with h0 | h0
 ·exact Or.inl (hl.trans h0)
 ·obtain ⟨q, rfl⟩ : ∃ q, n = q + 1 := ⟨n - 1, by omega⟩
  obtain ⟨g, c, e1⟩ := ownp_shape h
  cases e1
  refine Or.inr ⟨g, 0, rfl, fun j hj => ?_⟩
  have k := fun i (hi : i < 11) => (World.ownsRow.cellAt h (j * 11 + i) (by rw [← hl]; omega)).trans (sgL_at l j i hj hi)
  rw [Nat.zero_add]
  exact ⟨k 0 (by decide), k 1 (by decide), k 2 (by decide), k 3 (by decide), k 4 (by decide), k 5 (by decide), k 6 (by decide), k 7 (by decide), k 8 (by decide), k 9 (by decide), k 10 (by decide)⟩
theorem SAt.grown {w w' : World} {row : Option Nat} {b off : Nat} {s : Sg} (h : SAt w b off s) (hg : w.grownBy w' row) (hne : some b ≠ row) : SAt w' b off s :=
 ⟨hg.cell h.c0 hne, hg.cell h.c1 hne, hg.cell h.c2 hne, hg.cell h.c3 hne, hg.cell h.c4 hne, hg.cell h.c5 hne, hg.cell h.c6 hne, hg.cell h.c7 hne, hg.cell h.c8 hne, hg.cell h.c9 hne, hg.cell h.c10 hne⟩
theorem SAt.far {w : World} {b off g i : Nat} {s : Sg} (h : SAt w b off s) (hn : b ≠ g) (v : Value) : SAt (w.setCell ⟨g, i, none⟩ v) b off s := by
 obtain ⟨c0, c1, c2, c3, c4, c5, c6, c7, c8, c9, c10⟩ := h
 exact ⟨by simp [go_sem, c0], by simp [go_sem, c1], by simp [go_sem, c2], by simp [go_sem, c3], by simp [go_sem, c4], by simp [go_sem, c5], by simp [go_sem, c6], by simp [go_sem, c7], by simp [go_sem, c8], by simp [go_sem, c9], by simp [go_sem, c10]⟩
theorem SBox.set0 {w : World} {b : Nat} {s : Sg} (h : SBox w b s) (i : Int) : SBox (w.setCell ⟨b, 0, none⟩ (.int .i64 i)) b ⟨i, s.k, s.r, s.a⟩ := by
 obtain ⟨⟨c0, c1, c2, c3, c4, c5, c6, c7, c8, c9, c10⟩, hf, lt⟩ := h
 simp only [Nat.zero_add] at c0 c1 c2 c3 c4 c5 c6 c7 c8 c9 c10
 have f0 := hf 0 (by decide)
 refine ⟨⟨by go_simp, by go_simp, by go_simp, by go_simp, by go_simp, by go_simp, by go_simp, by go_simp, by go_simp, by go_simp, by go_simp⟩, fun i hi => ?_, by simpa [World.setCell] using lt⟩
 have := hf i hi
 simp [go_sem, this]
def SgAt (w : World) (g : Nat) (l : List Sg) : Prop := ∀ k, k < l.length → SAt w g (k * 11) (l.getD k sgz)
theorem sgat_of {w : World} {g : Nat} {l : List Sg} (h : SgRow w (some ⟨g, 0, none⟩) l) : SgAt w g l := fun k hk => by
 rcases h with h | ⟨b, off, e, hc⟩
 ·omega
 ·cases e
  have := hc k hk
  rwa [Nat.zero_add] at this
theorem SgAt.below {w w' : World} {g : Nat} {l : List Sg} (h : SgAt w g l) (hb : Below w.heap.size w w') : SgAt w' g l := fun k hk => (h k hk).below hb
theorem sgL_app_one (l : List Sg) (s : Sg) : sgL (l ++ [s]) = sgL l ++ sgC s := by
 rw [sgL_app]
 simp [sgL]
theorem sgM_take {m : List Sg} {k : Nat} {i : Int} (hk : k < m.length) : (m.map (sgM i)).take (k + 1) = (m.map (sgM i)).take k ++ [sgM i (m.getD k sgz)] := by
 rw [List.take_succ_eq_append_getElem (by simpa using hk)]
 simp [List.getD, hk]
set_option maxRecDepth 100000 in
set_option maxHeartbeats 16000000 in
theorem behind_any (l m : List Sg) (i : Int) (B : Nat) (lo : Option Addr) (lc n N mg mc : Nat) (w : World) (hl : l.length = n) (hN : m.length = N) (hown : w.ownsRow B 45 11 (.slice lo n lc) n (sgL l)) (hB : B ≤ w.heap.size) (hm : SgAt w mg m) (hmg : mg < w.heap.size) (hne : ∀ a, lo = some a → a.block ≠ mg) (hn : n + N ≤ 1048576) :
  Calls Tryz.prog 16 #[.slice lo n lc, .int .i64 i, .slice (some ⟨mg, 0, none⟩) N mc] w fun e w' => ∃ lo' lc', e = .returned (.slice lo' (n + N) lc') ∧ w'.ownsRow B 45 11 (.slice lo' (n + N) lc') (n + N) (sgL (l ++ m.map (sgM i))) ∧ Below B w w' ∧ w.grownBy w' (Value.slice lo n lc).ownBlock := by
 have HN : Hid (m.length = N) := hN
 have HL : Hid (l.length = n) := hl
 have HT : Hid (l ++ m.map (sgM i) = l ++ (m.map (sgM i)).take N) := (show _ = _ by rw [← hN, List.take_of_length_le (by simp)])
 obtain ⟨i0, hi, hz0, hz1', hz2⟩ := info_span Tryz.infoSg
 have HM : Hid (∀ k, k < N → sgL (l ++ (m.map (sgM i)).take (k + 1)) = sgL (l ++ (m.map (sgM i)).take k) ++ sgC (sgM i (m.getD k sgz))) := (show ∀ k, k < N → _ = _ from fun k hk => by
  rw [← sgL_app_one, List.append_assoc, ← sgM_take (by rw [hN]; exact hk)])
 clear hl hN
 go_enter Tryz.func16, Tryz.ntmps16
 go_upto_region 2 with fail
 go_loopg [0, 11] N (fun g a v wr => ∃ (k : Nat) (lo' : Option Addr) (lc' : Nat), k ≤ N ∧ g = N - k ∧ a = .slice lo' (n + k) lc' ∧ v = .int .i64 k ∧ wr.ownsRow B 45 11 (.slice lo' (n + k) lc') (n + k) (sgL (l ++ (m.map (sgM i)).take k)) ∧ (∀ a, lo' = some a → a.block ≠ mg) ∧ SgAt wr mg m ∧ mg < wr.heap.size ∧ Below B w wr ∧ B ≤ wr.heap.size ∧ w.grownBy wr (Value.slice lo n lc).ownBlock ∧ (∀ q, (Value.slice lo' (n + k) lc').ownBlock = some q → w.heap.size ≤ q ∨ (Value.slice lo n lc).ownBlock = some q))
 case atStart => exact ⟨0, lo, lc, by omega, rfl, rfl, rfl, by simpa using hown, hne, hm, hmg, Below.refl _ _, hB, World.grownBy.refl _ _, fun q hq => Or.inr hq⟩
 case round =>
  obtain ⟨k, la, lc2, hk, hg, rfl, rfl, hO, hn2, hM, hg2, hb, hz, hgw, how⟩ := hrel
  have HG : Hid (gk = N - k) := hg
  clear hg hown hm hne
  by_cases hlt : k < N
  ·obtain ⟨g0, g1, g2, g3, g4, g5, g6, g7, g8, g9, g10⟩ := hM k (by rw [HN.out]; exact hlt)
   have HMk : Hid (sgL (l ++ (m.map (sgM i)).take (k + 1)) = sgL (l ++ (m.map (sgM i)).take k) ++ sgC (sgM i (m.getD k sgz))) := HM.out k hlt
   obtain ⟨s, es⟩ : ∃ s, m.getD k sgz = s := ⟨_, rfl⟩
   rw [es] at g0 g1 g2 g3 g4 g5 g6 g7 g8 g9 g10 HMk
   generalize sgL (l ++ (m.map (sgM i)).take k) = xs at *
   have i1 : (k : Int) < (N : Int) := by omega
   have hst := run_storef Tryz.prog
   have n1 : mg ≠ wr.heap.size := by omega
   have n2 : ¬ mg = wr.heap.size := n1
   clear es
   go_upto_region 4 with fail
   go_upto_region 5 with fail
   have SB : SBox (wr.alloc (.cells #[.int .i64 i, .int .u8 s.k, .int .i64 s.r.r0, .int .i64 s.r.r1, .int .i64 s.r.r2, .int .i64 s.r.r3, .int .i64 s.r.r4, .int .i64 s.r.r5, .float .f64 s.a.1.1, .float .f64 s.a.1.2, .float .f64 s.a.2] 45)) wr.heap.size ⟨i, s.k, s.r, s.a⟩ := SBox.new wr ⟨i, s.k, s.r, s.a⟩ 45
   have st : Below wr.heap.size wr (wr.alloc (.cells #[.int .i64 i, .int .u8 s.k, .int .i64 s.r.r0, .int .i64 s.r.r1, .int .i64 s.r.r2, .int .i64 s.r.r3, .int .i64 s.r.r4, .int .i64 s.r.r5, .float .f64 s.a.1.1, .float .f64 s.a.1.2, .float .f64 s.a.2] 45)) := (Below.refl _ _).alloc (Nat.le_refl _) _
   have hO1 := jrown_below hO st
   have hM1 := hM.below st
   have hb1 := hb.trans (st.mono hz)
   have hlo := fun a ha => ownp_block hO a ha
   have hz1 : wr.heap.size < (wr.alloc (.cells #[.int .i64 i, .int .u8 s.k, .int .i64 s.r.r0, .int .i64 s.r.r1, .int .i64 s.r.r2, .int .i64 s.r.r3, .int .i64 s.r.r4, .int .i64 s.r.r5, .float .f64 s.a.1.1, .float .f64 s.a.1.2, .float .f64 s.a.2] 45)).heap.size := SB.lt
   have hB1 : B ≤ (wr.alloc (.cells #[.int .i64 i, .int .u8 s.k, .int .i64 s.r.r0, .int .i64 s.r.r1, .int .i64 s.r.r2, .int .i64 s.r.r3, .int .i64 s.r.r4, .int .i64 s.r.r5, .float .f64 s.a.1.1, .float .f64 s.a.1.2, .float .f64 s.a.2] 45)).heap.size := by omega
   have hgw1 : w.grownBy (wr.alloc (.cells #[.int .i64 i, .int .u8 s.k, .int .i64 s.r.r0, .int .i64 s.r.r1, .int .i64 s.r.r2, .int .i64 s.r.r3, .int .i64 s.r.r4, .int .i64 s.r.r5, .float .f64 s.a.1.1, .float .f64 s.a.1.2, .float .f64 s.a.2] 45)) (Value.slice lo n lc).ownBlock := hgw.trans (World.grownBy_alloc _ _ _)
   have hmz : mg < (wr.alloc (.cells #[.int .i64 i, .int .u8 s.k, .int .i64 s.r.r0, .int .i64 s.r.r1, .int .i64 s.r.r2, .int .i64 s.r.r3, .int .i64 s.r.r4, .int .i64 s.r.r5, .float .f64 s.a.1.1, .float .f64 s.a.1.2, .float .f64 s.a.2] 45)).heap.size := by omega
   clear hst hO hM st hb g0 g1 g2 g3 g4 g5 g6 g7 g8 g9 g10
   generalize wr.alloc (.cells #[.int .i64 i, .int .u8 s.k, .int .i64 s.r.r0, .int .i64 s.r.r1, .int .i64 s.r.r2, .int .i64 s.r.r3, .int .i64 s.r.r4, .int .i64 s.r.r5, .float .f64 s.a.1.1, .float .f64 s.a.1.2, .float .f64 s.a.2] 45) = W1 at *
   obtain ⟨x0, x1, x2, x3, x4, x5, x6, x7, x8, x9, x10⟩ := SB.at0
   simp only [Nat.zero_add] at x0 x1 x2 x3 x4 x5 x6 x7 x8 x9 x10
   have ho1 : B ≤ (W1.alloc (.cells #[.int .i64 i, .int .u8 s.k, .int .i64 s.r.r0, .int .i64 s.r.r1, .int .i64 s.r.r2, .int .i64 s.r.r3, .int .i64 s.r.r4, .int .i64 s.r.r5, .float .f64 s.a.1.1, .float .f64 s.a.1.2, .float .f64 s.a.2] 45)).heap.size := by simp; omega
   go_wp2_with (at_builtin; refine wpList_append_own_at _ rfl _ _ 31 rfl B 45 i0 (.agg #[.int .i64 0, .int .u8 0, .int .i64 0, .int .i64 0, .int .i64 0, .int .i64 0, .int .i64 0, .int .i64 0, .float .f64 0, .float .f64 0, .float .f64 0]) 11 88 Tryz.underlying31 hi hz0 hz1' hz2 rfl (by decide) _ _ _ rfl (World.ownsRow.alloc hO1 _) _ 1 1 [.int .i64 i, .int .u8 s.k, .int .i64 s.r.r0, .int .i64 s.r.r1, .int .i64 s.r.r2, .int .i64 s.r.r3, .int .i64 s.r.r4, .int .i64 s.r.r5, .float .f64 s.a.1.1, .float .f64 s.a.1.2, .float .f64 s.a.2] rfl rfl (World.news_of_block (cs := #[.int .i64 i, .int .u8 s.k, .int .i64 s.r.r0, .int .i64 s.r.r1, .int .i64 s.r.r2, .int .i64 s.r.r3, .int .i64 s.r.r4, .int .i64 s.r.r5, .float .f64 s.a.1.1, .float .f64 s.a.1.2, .float .f64 s.a.2]) (t := 45) (fr := (0, 0)) (heap_alloc_new _ _)) (by simp [Value.oneCell']) (by unfold maxLen; omega) (by omega) ho1 ?_; intro v' w5 hown5 hgrow _ hat; obtain ⟨g', cap', rfl⟩ := ownp_shape hown5)
   have hgr : (W1.alloc (.cells #[.int .i64 i, .int .u8 s.k, .int .i64 s.r.r0, .int .i64 s.r.r1, .int .i64 s.r.r2, .int .i64 s.r.r3, .int .i64 s.r.r4, .int .i64 s.r.r5, .float .f64 s.a.1.1, .float .f64 s.a.1.2, .float .f64 s.a.2] 45)).grownBy w5 (Value.slice la (n + k) lc2).ownBlock := hgrow
   have hat2 : some g' = (Value.slice la (n + k) lc2).ownBlock ∨ some g' = some (W1.alloc (.cells #[.int .i64 i, .int .u8 s.k, .int .i64 s.r.r0, .int .i64 s.r.r1, .int .i64 s.r.r2, .int .i64 s.r.r3, .int .i64 s.r.r4, .int .i64 s.r.r5, .float .f64 s.a.1.1, .float .f64 s.a.1.2, .float .f64 s.a.2] 45)).heap.size := hat
   have hob : ∀ q, (Value.slice la (n + k) lc2).ownBlock = some q → q ≠ mg := fun q hq => by
    cases la with
    | none => cases hq
    | some a =>
     have := hn2 a rfl
     obtain rfl : a.block = q := Option.some.inj hq
     exact this
   have hg3 : g' ≠ mg := fun e => by
    rcases hat2 with h | h
    ·exact hob g' h.symm e
    ·have := Option.some.inj h
     simp at this
     omega
   have hM5 : SgAt w5 mg m := fun q hq => ((hM1 q hq).below ((Below.refl _ _).alloc (Nat.le_refl _) _)).grown hgr (fun e => hob mg e.symm rfl)
   have hb5 : Below B w w5 := (hb1.alloc hB1 _).grown hgr ho1 (fun j hj => (hO1.lt j hj).1)
   have hz5 := Nat.le_trans ho1 hgr.size
   have hm5 : mg < w5.heap.size := Nat.lt_of_lt_of_le hmz (Nat.le_trans (by simp) hgr.size)
   have hgw5 : w.grownBy w5 (Value.slice lo n lc).ownBlock := (hgw1.trans (World.grownBy_alloc W1 (.cells #[.int .i64 i, .int .u8 s.k, .int .i64 s.r.r0, .int .i64 s.r.r1, .int .i64 s.r.r2, .int .i64 s.r.r3, .int .i64 s.r.r4, .int .i64 s.r.r5, .float .f64 s.a.1.1, .float .f64 s.a.1.2, .float .f64 s.a.2] 45) _)).andThen hgr how
   have how5 : ∀ q, (Value.slice (some ⟨g', 0, none⟩) (n + k + 1) cap').ownBlock = some q → w.heap.size ≤ q ∨ (Value.slice lo n lc).ownBlock = some q := fun q hq => by
    obtain rfl : g' = q := Option.some.inj hq
    rcases hat2 with h | h
    ·exact how _ h.symm
    ·have := Option.some.inj h
     have := hgw1.size
     simp at *
     omega
   clear hgrow hat hgr hat2 hM1 hb1 hO1 hob hgw1 how hgw
   go_roundg (N - (k + 1))
   case measure => rw [HG.out]; omega
   case rel => exact ⟨k + 1, _, _, by omega, rfl, rfl, by go_num, by rw [HMk.out]; exact hown5, (fun a ha => by cases ha; exact hg3), hM5, hm5, hb5, hz5, hgw5, how5⟩
  ·have e : k = N := by omega
   subst e
   have i1 : ¬ (k : Int) < (k : Int) := by omega
   go_wp2
   go_ret
   exact ⟨la, lc2, rfl, by rw [HT.out]; exact hO, hb, hgw⟩
def sgAll (ls : Nat → List Sg) : Nat → List Sg
 | 0 => []
 | k + 1 => sgAll ls k ++ (ls k).map (sgM k)
theorem sgAll_le (ls : Nat → List Sg) (h : ∀ k, (ls k).length ≤ 3) (k : Nat) : (sgAll ls k).length ≤ 3 * k := by
 induction k with
 | zero => simp [sgAll]
 | succ n ih =>
  have := h n
  simp only [sgAll, List.length_append, List.length_map]
  omega
theorem JRow.at {w : World} {b off : Nat} {js : List Jn} (h : JRow w (some ⟨b, off, none⟩) js) {k : Nat} (hk : k < js.length) : w.cell? ⟨b, off + k * 4, none⟩ = some (.string (js.getD k jz).1) ∧ w.cell? ⟨b, off + k * 4 + 1, none⟩ = some (.int .i32 (js.getD k jz).2.1) ∧ w.cell? ⟨b, off + k * 4 + 2, none⟩ = some (.int .i32 (js.getD k jz).2.2.1) ∧ w.cell? ⟨b, off + k * 4 + 3, none⟩ = some (.int .u8 (js.getD k jz).2.2.2) := by
 rcases h with h | ⟨b', off', e, hc⟩
 ·omega
 ·cases e
  exact hc k hk
theorem JRow.addr {w : World} {ao : Option Addr} {js : List Jn} (h : JRow w ao js) {k : Nat} (hk : k < js.length) : ∃ b off, ao = some ⟨b, off, none⟩ := by
 rcases h with h | ⟨b', off', e, _⟩
 ·omega
 ·exact ⟨b', off', e⟩
def SgsGave (w : World) (l : List Sg) (e : Ending) (w' : World) : Prop := ∃ lo lc, e = .returned (.tuple #[.slice lo l.length lc, .int .i64 0]) ∧ SgRow w' lo l ∧ Below w.heap.size w w'
set_option maxRecDepth 100000 in
set_option maxHeartbeats 32000000 in
theorem bsprings_any (js : List Jn) (ms : List Mb) (ao mo : Option Addr) (ac mc : Nat) (w : World) (hr : JRow w ao js) (hw : JWs js) (hn : js.length ≤ 1125899906842624) (mr : MRow w mo ms) (mw : MWs ms) (mn : ms.length ≤ 48) (hc : cpA js ms = (0, 0))
  (ls : Nat → List Sg) (hll : ∀ k, 1 ≤ (ls k).length ∧ (ls k).length ≤ 3) (hen : ∀ k, k < ms.length → (0 ≤ (ms.getD k mz).a ∧ (ms.getD k mz).a < js.length) ∧ (0 ≤ (ms.getD k mz).b ∧ (ms.getD k mz).b < js.length))
  (hS : ∀ k, k < ms.length → ∀ w, TabW w → Calls Tryz.prog 17 #[mV (ms.getD k mz), jV (js.getD (ms.getD k mz).a.toNat jz), jV (js.getD (ms.getD k mz).b.toNat jz)] w (SgTold w (ls k))) (hT : TabW w) :
  Calls Tryz.prog 5 #[.agg #[.slice ao js.length ac, .slice mo ms.length mc]] w (SgsGave w (sgAll ls ms.length)) := by
 have cc := fun w' (h : Below w.heap.size w w') => bcheck_any js ms ao mo ac mc w' (hr.below h) hw hn (mr.below h) mw (by omega)
 rw [hc] at cc
 simp only at cc
 have HRJ : ∀ W, Below w.heap.size w W → JRow W ao js := fun W h => hr.below h
 have HRM : ∀ W, Below w.heap.size w W → MRow W mo ms := fun W h => mr.below h
 obtain ⟨N, hN⟩ : ∃ N, ms.length = N := ⟨_, rfl⟩
 obtain ⟨A, hA⟩ : ∃ A, js.length = A := ⟨_, rfl⟩
 have HN : Hid (ms.length = N) := hN
 have HA : Hid (js.length = A) := hA
 have HS : Hid (∀ k, k < N → ∀ w, TabW w → Calls Tryz.prog 17 #[mV (ms.getD k mz), jV (js.getD (ms.getD k mz).a.toNat jz), jV (js.getD (ms.getD k mz).b.toNat jz)] w (SgTold w (ls k))) := (show ∀ k, k < N → _ from fun k hk => hS k (by rw [hN]; exact hk))
 have HE : Hid (∀ k, k < N → (0 ≤ (ms.getD k mz).a ∧ (ms.getD k mz).a < A) ∧ (0 ≤ (ms.getD k mz).b ∧ (ms.getD k mz).b < A)) := (show ∀ k, k < N → _ from fun k hk => by have := hen k (by rw [hN]; exact hk); rw [hA] at this; exact this)
 have HLL := sgAll_le ls (fun k => (hll k).2)
 rw [hN] at cc mn ⊢
 rw [hA] at cc hn ⊢
 have X0 := PBox.new w (.slice ao A ac) (.slice mo N mc) 29
 have hb0 : Below w.heap.size w (w.alloc (.cells #[.slice ao A ac, .slice mo N mc] 29)) := (Below.refl _ _).alloc (Nat.le_refl _) _
 clear hS hen hc hr mr hN hA hn
 go_enter Tryz.func5, Tryz.ntmps5
 go_upto_region 1 with fail
 generalize w.alloc (.cells #[.slice ao A ac, .slice mo N mc] 29) = W0 at *
 obtain ⟨x0, x1, _, _, _⟩ := id X0
 go_upto_region 2 with (go_at_call 15; refine (cc _ hb0).mono ?_; rintro e w1 ⟨rfl, b1⟩)
 replace X0 := X0.below b1
 have hb1 := hb0.trans (b1.mono hb0.size)
 clear x0 x1 b1 hb0 cc
 obtain ⟨x0, x1, _, _, _⟩ := id X0
 go_upto_region 6 with fail
 have hz0 : w.heap.size < w1.heap.size := X0.lt
 go_loopg [6, 20] N (fun g a v wr => ∃ (k : Nat) (lo : Option Addr) (lc : Nat), k ≤ N ∧ g = N - k ∧ a = .slice lo (sgAll ls k).length lc ∧ v = .int .i64 k ∧ wr.ownsRow w1.heap.size 45 11 (.slice lo (sgAll ls k).length lc) (sgAll ls k).length (sgL (sgAll ls k)) ∧ Below w1.heap.size w1 wr ∧ w1.heap.size ≤ wr.heap.size)
 case atStart => exact ⟨0, none, 0, by omega, rfl, rfl, rfl, World.ownsRow_nil _ _ _ _, Below.refl _ _, Nat.le_refl _⟩
 case round =>
  obtain ⟨k, la, lc, hk, hg, rfl, rfl, hO, hbr, hz⟩ := hrel
  have HG : Hid (gk = N - k) := hg
  clear hg
  have hbx := hb1.trans (hbr.mono (by omega : w.heap.size ≤ w1.heap.size))
  have XR := X0.below hbr
  have hle := HLL k
  by_cases hlt : k < N
  ·rcases HRM _ hbx with h | ⟨b, off, rfl, hc⟩
   ·exact absurd (HN.out ▸ h) (by omega)
   ·have gm := hc k (by rw [HN.out]; exact hlt)
    have cS := HS.out k hlt
    have hEn := HE.out k hlt
    obtain ⟨m, ex⟩ : ∃ m, ms.getD k mz = m := ⟨_, rfl⟩
    rw [ex] at gm cS hEn
    obtain ⟨⟨a0, a1⟩, b0, b1⟩ := hEn
    have hja := HRJ _ hbx
    obtain ⟨jb, jo, rfl⟩ := hja.addr (k := m.a.toNat) (by rw [HA.out]; omega)
    have ga := hja.at (k := m.a.toNat) (by rw [HA.out]; omega)
    have gb := hja.at (k := m.b.toNat) (by rw [HA.out]; omega)
    obtain ⟨⟨s1, p1, q1', f1⟩, e1⟩ : ∃ j, js.getD m.a.toNat jz = j := ⟨_, rfl⟩
    obtain ⟨⟨s2, p2, q2', f2⟩, e2⟩ : ∃ j, js.getD m.b.toNat jz = j := ⟨_, rfl⟩
    rw [e1, e2] at cS
    rw [e1] at ga
    rw [e2] at gb
    simp only at ga gb
    obtain ⟨na, hna⟩ : ∃ n : Nat, m.a.toNat = n := ⟨_, rfl⟩
    obtain ⟨nb, hnb⟩ : ∃ n : Nat, m.b.toNat = n := ⟨_, rfl⟩
    have ea : m.a = (na : Int) := by omega
    have eb : m.b = (nb : Int) := by omega
    rw [hna] at ga
    rw [hnb] at gb
    have MX := MBox.new wr m 38
    have st : Below wr.heap.size wr (wr.alloc (mO m 38)) := (Below.refl _ _).alloc (Nat.le_refl _) _
    obtain ⟨ms', kd, xa, xb, ha, hb, xe, xr, xi⟩ := m
    simp only at ea eb
    subst ea eb
    unfold mV jV at cS
    unfold mO at MX st
    simp only at *
    obtain ⟨g0, g1, g2, g3, g4, g5, g6, g7, g8⟩ := gm
    simp only at g0 g1 g2 g3 g4 g5 g6 g7 g8
    have hbl : b < wr.heap.size := World.block_lt_of_cell? _ _ g0
    have hjl : jb < wr.heap.size := World.block_lt_of_cell? _ _ ga.1
    have n1 : b ≠ wr.heap.size := by omega
    have n2 : jb ≠ wr.heap.size := by omega
    have i1 : (k : Int) < (N : Int) := by omega
    have hst := run_storef Tryz.prog
    obtain ⟨x0, x1, _, _, xl⟩ := id XR
    clear hc ex e1 e2 hna hnb hja
    go_upto_region 8 with fail
    clear hst g0 g1 g2 g3 g4 g5 g6 g7 g8 xl x0 x1
    have ga' := ga
    have gb' := gb
    obtain ⟨u0, u1, u2, u3⟩ := ga
    obtain ⟨v0, v1, v2, v3⟩ := gb
    have q0 := (st.cell (p := ⟨jb, jo + na * 4, none⟩) hjl).trans u0
    have q1 := (st.cell (p := ⟨jb, jo + na * 4 + 1, none⟩) hjl).trans u1
    have q2 := (st.cell (p := ⟨jb, jo + na * 4 + 2, none⟩) hjl).trans u2
    have q3 := (st.cell (p := ⟨jb, jo + na * 4 + 3, none⟩) hjl).trans u3
    have r0 := (st.cell (p := ⟨jb, jo + nb * 4, none⟩) hjl).trans v0
    have r1 := (st.cell (p := ⟨jb, jo + nb * 4 + 1, none⟩) hjl).trans v1
    have r2 := (st.cell (p := ⟨jb, jo + nb * 4 + 2, none⟩) hjl).trans v2
    have r3 := (st.cell (p := ⟨jb, jo + nb * 4 + 3, none⟩) hjl).trans v3
    have XV := XR.below st
    have hO1 := jrown_below hO st
    have hbs := hbr.trans (st.mono hz)
    have hzs := Nat.le_trans hz st.size
    have hlo := fun a ha => (ownp_block hO a ha).2
    have hlk := hll k
    clear u0 u1 u2 u3 v0 v1 v2 v3 XR hO st ga' gb'
    generalize wr.alloc (.cells #[.string ms', .int .u8 kd, .int .i64 na, .int .i64 nb, .bool ha, .bool hb, .float .f64 xe, .float .f64 xr, .float .f64 xi] 38) = V1 at *
    obtain ⟨y0, y1, y2, y3, y4, y5, y6, y7, y8⟩ := MX.at0
    simp only [Nat.zero_add] at y0 y1 y2 y3 y4 y5 y6 y7 y8
    obtain ⟨x0, x1, _, _, xl⟩ := id XV
    have hV : wr.heap.size < V1.heap.size := MX.lt
    have TV := tabW_below hT (hb1.trans (hbs.mono (by omega : w.heap.size ≤ w1.heap.size)))
    have TD := tabW_below TV (Below.refl V1.heap.size V1).drew
    have i3 : (na : Int) < (A : Int) := by omega
    have i4 : (nb : Int) < (A : Int) := by omega
    obtain ⟨n0, hn0⟩ : ∃ n, (sgAll ls k).length = n := ⟨_, rfl⟩
    have HN0 : Hid ((sgAll ls k).length = n0) := hn0
    obtain ⟨n9, hn9⟩ : ∃ n, (ls k).length = n := ⟨_, rfl⟩
    have HN9 : Hid ((ls k).length = n9) := hn9
    rw [hn0] at hO1 hle
    rw [hn9] at hlk
    have cS2 : ∀ w, TabW w → Calls Tryz.prog 17 #[.agg #[.string ms', .int .u8 kd, .int .i64 na, .int .i64 nb, .bool ha, .bool hb, .float .f64 xe, .float .f64 xr, .float .f64 xi], .agg #[.string s1, .int .i32 p1, .int .i32 q1', .int .u8 f1], .agg #[.string s2, .int .i32 p2, .int .i32 q2', .int .u8 f2]] w (fun e w' => ∃ g c, e = .returned (.slice (some ⟨g, 0, none⟩) n9 c) ∧ SgAt w' g (ls k) ∧ Below w.heap.size w w' ∧ w.heap.size ≤ g) := fun w hW => (cS w hW).mono fun e w' h => by
     obtain ⟨g, c, h1, h2, h3, h4⟩ := h
     exact ⟨g, c, by rw [h1, hn9], sgat_of h2, h3, h4⟩
    have cB : ∀ (g c : Nat) (W : World), W.ownsRow w1.heap.size 45 11 (.slice la n0 lc) n0 (sgL (sgAll ls k)) → w1.heap.size ≤ W.heap.size → SgAt W g (ls k) → wr.heap.size ≤ g → Calls Tryz.prog 16 #[.slice la n0 lc, .int .i64 k, .slice (some ⟨g, 0, none⟩) n9 c] W fun e w' => ∃ lo' lc', e = .returned (.slice lo' (n0 + n9) lc') ∧ w'.ownsRow w1.heap.size 45 11 (.slice lo' (n0 + n9) lc') (n0 + n9) (sgL (sgAll ls (k + 1))) ∧ Below w1.heap.size W w' ∧ W.grownBy w' (Value.slice la n0 lc).ownBlock := fun g c W h1 h2 h3 h4 => behind_any (sgAll ls k) (ls k) k w1.heap.size la lc n0 n9 g c W hn0 hn9 h1 h2 h3 (by have := (h3 0 (by omega)).lt; exact this) (fun a ha => by have := hlo a ha; omega) (by omega)
    have hjV : jb < V1.heap.size := by omega
    have hjw : jb < w.heap.size := by
     have h1 := (HRJ w (Below.refl _ _)).at (k := na) (by rw [HA.out]; omega)
     exact World.block_lt_of_cell? _ _ h1.1
    have hown := fun q (hq : (Value.slice la n0 lc).ownBlock = some q) => (hO1.lt q hq).1
    have hown2 : ∀ q, (Value.slice la n0 lc).ownBlock = some q → q < wr.heap.size := fun q hq => by
     cases la with
     | none => cases hq
     | some a =>
      have := hlo a rfl
      obtain rfl : a.block = q := Option.some.inj hq
      exact this
    have neP : some w.heap.size ≠ (Value.slice la n0 lc).ownBlock := fun e => by have := hown _ e.symm; omega
    have neM : some wr.heap.size ≠ (Value.slice la n0 lc).ownBlock := fun e => by have := hown2 _ e.symm; omega
    have neJ : some jb ≠ (Value.slice la n0 lc).ownBlock := fun e => by have := hown _ e.symm; omega
    clear cS hn9 hlo hlk hown hown2 hjw
    rw [hn0]
    clear hn0
    have D1 := (Below.refl V1.heap.size V1).drew
    have hO2 := jrown_below hO1 D1
    go_region_held3 (fun w' => w'.cell? ⟨w.heap.size, 0, none⟩ = some (.slice (some ⟨jb, jo, none⟩) A ac) ∧ w'.cell? ⟨wr.heap.size, 0, none⟩ = some (.string ms') ∧ w'.cell? ⟨wr.heap.size, 1, none⟩ = some (.int .u8 kd) ∧ w'.cell? ⟨wr.heap.size, 2, none⟩ = some (.int .i64 na) ∧ w'.cell? ⟨wr.heap.size, 3, none⟩ = some (.int .i64 nb) ∧ w'.cell? ⟨wr.heap.size, 4, none⟩ = some (.bool ha) ∧ w'.cell? ⟨wr.heap.size, 5, none⟩ = some (.bool hb) ∧ w'.cell? ⟨wr.heap.size, 6, none⟩ = some (.float .f64 xe) ∧ w'.cell? ⟨wr.heap.size, 7, none⟩ = some (.float .f64 xr) ∧ w'.cell? ⟨wr.heap.size, 8, none⟩ = some (.float .f64 xi) ∧ w'.cell? ⟨jb, jo + na * 4, none⟩ = some (.string s1) ∧ w'.cell? ⟨jb, jo + na * 4 + 1, none⟩ = some (.int .i32 p1) ∧ w'.cell? ⟨jb, jo + na * 4 + 2, none⟩ = some (.int .i32 q1') ∧ w'.cell? ⟨jb, jo + na * 4 + 3, none⟩ = some (.int .u8 f1) ∧ w'.cell? ⟨jb, jo + nb * 4, none⟩ = some (.string s2) ∧ w'.cell? ⟨jb, jo + nb * 4 + 1, none⟩ = some (.int .i32 p2) ∧ w'.cell? ⟨jb, jo + nb * 4 + 2, none⟩ = some (.int .i32 q2') ∧ w'.cell? ⟨jb, jo + nb * 4 + 3, none⟩ = some (.int .u8 f2)) (go_keep)
     (first
     | (go_at_call 17; refine (cS2 _ TD).mono ?_; rintro e w3 ⟨g, c, rfl, rs, b3, lg⟩; have hO3 := jrown_below hO2 b3; have b13 := D1.trans b3; have hz3 : w1.heap.size ≤ w3.heap.size := Nat.le_trans hzs b13.size; have lg2 : wr.heap.size ≤ g := Nat.le_trans (Nat.le_of_lt hV) (Nat.le_trans D1.size lg); have ka0 := (b13.cell (p := ⟨w.heap.size, 0, none⟩) xl).trans x0; have ka1 := (b13.cell (p := ⟨wr.heap.size, 0, none⟩) hV).trans y0; have ka2 := (b13.cell (p := ⟨wr.heap.size, 1, none⟩) hV).trans y1; have ka3 := (b13.cell (p := ⟨wr.heap.size, 2, none⟩) hV).trans y2; have ka4 := (b13.cell (p := ⟨wr.heap.size, 3, none⟩) hV).trans y3; have ka5 := (b13.cell (p := ⟨wr.heap.size, 4, none⟩) hV).trans y4; have ka6 := (b13.cell (p := ⟨wr.heap.size, 5, none⟩) hV).trans y5; have ka7 := (b13.cell (p := ⟨wr.heap.size, 6, none⟩) hV).trans y6; have ka8 := (b13.cell (p := ⟨wr.heap.size, 7, none⟩) hV).trans y7; have ka9 := (b13.cell (p := ⟨wr.heap.size, 8, none⟩) hV).trans y8; have ka10 := (b13.cell (p := ⟨jb, jo + na * 4, none⟩) hjV).trans q0; have ka11 := (b13.cell (p := ⟨jb, jo + na * 4 + 1, none⟩) hjV).trans q1; have ka12 := (b13.cell (p := ⟨jb, jo + na * 4 + 2, none⟩) hjV).trans q2; have ka13 := (b13.cell (p := ⟨jb, jo + na * 4 + 3, none⟩) hjV).trans q3; have ka14 := (b13.cell (p := ⟨jb, jo + nb * 4, none⟩) hjV).trans r0; have ka15 := (b13.cell (p := ⟨jb, jo + nb * 4 + 1, none⟩) hjV).trans r1; have ka16 := (b13.cell (p := ⟨jb, jo + nb * 4 + 2, none⟩) hjV).trans r2; have ka17 := (b13.cell (p := ⟨jb, jo + nb * 4 + 3, none⟩) hjV).trans r3)
     | (go_at_call 16; refine (cB _ _ _ hO3 hz3 rs lg2).mono ?_; rintro e w4 ⟨lo', lc', rfl, hO4, b4, hg4⟩; have kb0 := hg4.cell ka0 neP; have kb1 := hg4.cell ka1 neM; have kb2 := hg4.cell ka2 neM; have kb3 := hg4.cell ka3 neM; have kb4 := hg4.cell ka4 neM; have kb5 := hg4.cell ka5 neM; have kb6 := hg4.cell ka6 neM; have kb7 := hg4.cell ka7 neM; have kb8 := hg4.cell ka8 neM; have kb9 := hg4.cell ka9 neM; have kb10 := hg4.cell ka10 neJ; have kb11 := hg4.cell ka11 neJ; have kb12 := hg4.cell ka12 neJ; have kb13 := hg4.cell ka13 neJ; have kb14 := hg4.cell ka14 neJ; have kb15 := hg4.cell ka15 neJ; have kb16 := hg4.cell ka16 neJ; have kb17 := hg4.cell ka17 neJ))
    have HL1 : Hid ((sgAll ls (k + 1)).length = n0 + n9) := (show _ = _ by rw [sgAll, List.length_append, List.length_map, HN0.out, HN9.out])
    have hb4 := (hbs.trans (b13.mono hzs)).trans b4
    have hz4 : w1.heap.size ≤ w4.heap.size := Nat.le_trans hz3 b4.size
    clear x0 y0 y1 y2 y3 y4 y5 y6 y7 y8 q0 q1 q2 q3 r0 r1 r2 r3 cS2 cB hO1 hO2 hO3 rs b3 b13 hg4
    go_wp2
    go_roundg (N - (k + 1))
    case measure => rw [HG.out]; omega
    case rel => exact ⟨k + 1, lo', lc', by omega, rfl, by rw [HL1.out], by go_num, by rw [HL1.out]; exact hO4, hb4, hz4⟩
  ·have e : k = N := by omega
   subst e
   have i1 : ¬ (k : Int) < (k : Int) := by omega
   obtain ⟨x0, x1, _, _, xl⟩ := id XR
   go_wp2
   exact bodyPost_ret (v := .tuple #[.slice la (sgAll ls k).length lc, .int .i64 0]) (by simp [results, Tryz.results5]) rfl ⟨la, lc, rfl, sg_own hO rfl, hbx⟩
theorem cp_facts {js : List Jn} {ms : List Mb} (h : (cpA js ms).1 = 0) : cpA js ms = (0, 0) ∧ js.length ≤ 16 ∧ ms.length ≤ 48 ∧ ∀ k, k < ms.length → mmB js.length (ms.getD k mz) = true := by
 by_cases hc : (ckA js).1 = 0
 ·have e : cpA js ms = cmA js.length ms := by unfold cpA; rw [if_pos hc]
  rw [e] at h ⊢
  have h16 : js.length ≤ 16 := by
   rcases Nat.lt_or_ge 16 js.length with q | q
   ·rw [ck_long q] at hc
    simp at hc
   ·exact q
  rcases Nat.lt_or_ge 48 ms.length with q | q
  ·rw [cm_long q] at h
   simp at h
  ·unfold cmA at h ⊢
   rw [if_neg (by omega)] at h ⊢
   cases hf : (List.range ms.length).find? (fM js.length ms) with
   | some k =>
    rw [hf] at h
    simp at h
   | none =>
    refine ⟨rfl, h16, q, fun k hk => ?_⟩
    have := List.find?_eq_none.1 hf k (List.mem_range.2 hk)
    unfold fM at this
    simp only [Bool.or_eq_true, Bool.not_eq_true', not_or, Bool.not_eq_true, Bool.not_eq_false] at this
    exact this.2
 ·unfold cpA at h
  rw [if_neg hc] at h
  exact absurd h hc
theorem mm_facts {n : Nat} {m : Mb} (h : mmB n m = true) : (0 ≤ m.a ∧ m.a < n) ∧ (0 ≤ m.b ∧ m.b < n) ∧ m.a ≠ m.b ∧ nbB m.e = true ∧ nbB m.ar = true ∧ (m.kd ≠ 1 → nbB m.i = true) := by
 unfold mmB at h
 simp only [Bool.and_eq_true] at h
 obtain ⟨⟨⟨_, h1⟩, h2, h3⟩, h4⟩ := h
 unfold ldB at h1
 simp only [Bool.and_eq_true, decide_eq_true_eq] at h1
 obtain ⟨⟨⟨⟨a1, a2⟩, a3⟩, a4⟩, a5⟩ := h1
 refine ⟨⟨a1, a3⟩, ⟨a2, a4⟩, a5, h2, h3, fun hk => ?_⟩
 unfold kdB at h4
 rw [if_neg hk] at h4
 split at h4
 ·exact h4
 ·cases h4
theorem below_two27 {B g : Nat} {w w' : World} (h : Below B w w') (hg : B ≤ g) (x y : Value) : Below B w ((w'.setCell ⟨g, 0, none⟩ x).setCell ⟨g, 1, none⟩ y) :=
 (h.setCell (p := ⟨g, 0, none⟩) hg _).setCell (p := ⟨g, 1, none⟩) hg _
set_option maxRecDepth 100000 in
set_option maxHeartbeats 8000000 in
theorem bunk_of (js : List Jn) (ms : List Mb) (ao mo : Option Addr) (ac mc : Nat) (w : World) (hr : JRow w ao js) (hw : JWs js) (hn : js.length ≤ 1125899906842624) (mr : MRow w mo ms) (mw : MWs ms) (mn : ms.length ≤ 1125899906842624)
  (cu : (cpA js ms).1 = 0 → ∀ w', Below w.heap.size w w' → Calls Tryz.prog 46 #[.agg #[.slice ao js.length ac, .slice mo ms.length mc]] w' (fun e w'' => ∃ g, e = .returned (.agg #[.slice (some ⟨g, 0, none⟩) js.length js.length, .int .i64 (plK js ms js.length).2]) ∧ P3Row w'' (some ⟨g, 0, none⟩) (plK js ms js.length).1 ∧ Below w'.heap.size w' w'')) :
  Calls Tryz.prog 27 #[.agg #[.slice ao js.length ac, .slice mo ms.length mc]] w (GavePl w (unkA js ms)) := by
 have cc := fun w' (hb : Below w.heap.size w w') => bcheck_any js ms ao mo ac mc w' (hr.below hb) hw hn (mr.below hb) mw mn
 have HU : Hid (unkA js ms = if (cpA js ms).1 = 0 then (plK js ms js.length, 0) else (([], 0), (cpA js ms).1)) := (show _ = _ from rfl)
 obtain ⟨N, hN⟩ : ∃ N, ms.length = N := ⟨_, rfl⟩
 obtain ⟨A, hA⟩ : ∃ A, js.length = A := ⟨_, rfl⟩
 have HL : Hid ((plK js ms A).1.length = A) := plK_len js ms A
 rw [hN] at cc cu ⊢
 rw [hA] at cc cu HU ⊢
 generalize unkA js ms = un at *
 generalize plK js ms A = pk at *
 obtain ⟨⟨c1, c2⟩, hc⟩ : ∃ c, cpA js ms = c := ⟨_, rfl⟩
 rw [hc] at cc HU cu
 simp only at cc HU cu
 have X0 := (PBox.new w (.slice ao A ac) (.slice mo N mc) 29).alloc (.cells #[.slice none 0 0, .int .i64 0] 74)
 have X1 := PBox.new (w.alloc (.cells #[.slice ao A ac, .slice mo N mc] 29)) (.slice none 0 0) (.int .i64 0) 74
 have hs1 : (w.alloc (.cells #[.slice ao A ac, .slice mo N mc] 29)).heap.size = w.heap.size + 1 := by simp
 rw [hs1] at X1
 have hb0 : Below w.heap.size w ((w.alloc (.cells #[.slice ao A ac, .slice mo N mc] 29)).alloc (.cells #[.slice none 0 0, .int .i64 0] 74)) := ((Below.refl _ _).alloc (Nat.le_refl _) _).alloc (by rw [hs1]; omega) _
 clear hN hA hc mr mw mn hn hw hr hs1
 go_enter Tryz.func27, Tryz.ntmps27
 go_upto_region 1 with fail
 generalize (w.alloc (.cells #[.slice ao A ac, .slice mo N mc] 29)).alloc (.cells #[.slice none 0 0, .int .i64 0] 74) = U0 at *
 obtain ⟨x0, x1, _, _, _⟩ := id X0
 go_upto_region 2 with (go_at_call 15; refine (cc _ hb0).mono ?_; rintro e w1 ⟨rfl, b1⟩)
 replace X0 := X0.below b1
 replace X1 := X1.below b1
 have hb1 := hb0.trans (b1.mono hb0.size)
 clear x0 x1 cc hb0 b1
 by_cases hc0 : c1 = 0
 case neg =>
  have hne : (c1 != 0) = true := by simpa using hc0
  have HC2 : Hid (un = (([], 0), c1)) := HU.out.trans (by rw [if_neg hc0])
  obtain ⟨y0, y1, f0, f1, _⟩ := id X1
  clear HU hc0 cu
  go_wp2
  refine bodyPost_ret (v := .tuple #[.agg #[.slice none 0 0, .int .i64 0], .int .i64 c1]) (by simp [results, Tryz.results27, go_sem, y0, y1]) rfl ?_
  rw [HC2.out]
  exact ⟨none, 0, rfl, Or.inl rfl, below_two27 hb1 (by omega) _ _⟩
 subst hc0
 have HC2 : Hid (un = (pk, 0)) := HU.out.trans (by rw [if_pos rfl])
 have cu2 := cu rfl
 clear HU cu
 obtain ⟨x0, x1, _, _, _⟩ := id X0
 go_wp2_with (go_at_call 46; refine (cu2 _ hb1).mono ?_; rintro e w2 ⟨g, rfl, pr, b2⟩; obtain ⟨y0, y1, f0, f1, hlt⟩ := X1.below b2)
 have hb2 := hb1.trans (b2.mono hb1.size)
 refine bodyPost_ret (v := .tuple #[.agg #[.slice (some ⟨g, 0, none⟩) A A, .int .i64 pk.2], .int .i64 0]) (by simp [results, Tryz.results27, go_sem, y0, y1]) rfl ?_
 rw [HC2.out]
 refine ⟨some ⟨g, 0, none⟩, A, by rw [HL.out], ?_, below_two27 hb2 (by omega) _ _⟩
 rcases pr with h | ⟨b, off, e, hc⟩
 ·exact Or.inl h
 ·cases e
  rcases Nat.eq_zero_or_pos pk.1.length with h0 | h0
  ·exact Or.inl h0
  ·have hne : g ≠ w.heap.size + 1 := fun q => by
    have h1 := (hc 0 h0).1
    rw [Nat.zero_mul, Nat.zero_add, q, y0] at h1
    cases h1
   have K : ∀ (o : Nat) (u : Value), w2.cell? ⟨g, o, none⟩ = some u → ((w2.setCell ⟨w.heap.size + 1, 0, none⟩ (.slice (some ⟨g, 0, none⟩) A A)).setCell ⟨w.heap.size + 1, 1, none⟩ (.int .i64 pk.2)).cell? ⟨g, o, none⟩ = some u := fun o u h => by simp [go_sem, h]
   refine Or.inr ⟨g, 0, rfl, fun k hk => ?_⟩
   obtain ⟨h1, h2, h3⟩ := hc k hk
   exact ⟨K _ _ h1, K _ _ h2, K _ _ h3⟩
theorem ck_facts {js : List Jn} (h : (ckA js).1 = 0) : js.length ≤ 16 ∧ ∀ k, k < js.length → fB js k = false := by
 rcases Nat.lt_or_ge 16 js.length with q | q
 ·rw [ck_long q] at h
  simp at h
 ·refine ⟨q, fun k hk => ?_⟩
  unfold ckA at h
  rw [if_neg (by omega)] at h
  cases hf : (List.range js.length).find? (fB js) with
  | some k =>
   rw [hf] at h
   simp at h
  | none =>
   have := List.find?_eq_none.1 hf k (List.mem_range.2 hk)
   simpa using this
theorem apart_lt {js : List Jn} (h : (ckA js).1 = 0) {a b : Nat} (hab : a < b) (hb : b < js.length) : aptB (js.getD a jz) (js.getD b jz) = true ∧ ¬ ((js.getD a jz).2.1 = (js.getD b jz).2.1 ∧ (js.getD a jz).2.2.1 = (js.getD b jz).2.2.1) := by
 obtain ⟨_, hf⟩ := ck_facts h
 have fa := hf a (by omega)
 have fb := hf b hb
 unfold fB at fa fb
 simp only [Bool.or_eq_false_iff, Bool.not_eq_false'] at fa fb
 have ma := fa.2
 have mb := fb.2
 unfold myB at ma mb
 simp only [Bool.and_eq_true] at ma mb
 refine ⟨?_, fun e => ?_⟩
 ·unfold aptB
  rw [ma.1.2.1, ma.1.2.2, mb.1.2.1, mb.1.2.2]
  rfl
 ·have hp := fb.1.2
  unfold hsP at hp
  rw [List.any_eq_false] at hp
  refine hp (js.getD a jz) ?_ (by simpa using e)
  rw [List.mem_take_iff_getElem]
  exact ⟨a, by omega, by simp [List.getD, (show a < js.length by omega)]⟩
theorem sq_apart {x y p q : Int} (h : ¬ (x = p ∧ y = q)) : (p - x) * (p - x) + (q - y) * (q - y) ≠ 0 := fun e => by
 have a : 0 ≤ (p - x) * (p - x) := by
  rcases Int.le_total 0 (p - x) with g | g
  ·exact Int.mul_nonneg g g
  ·exact Int.mul_nonneg_of_nonpos_of_nonpos g g
 have b : 0 ≤ (q - y) * (q - y) := by
  rcases Int.le_total 0 (q - y) with g | g
  ·exact Int.mul_nonneg g g
  ·exact Int.mul_nonneg_of_nonpos_of_nonpos g g
 have a0 : (p - x) * (p - x) = 0 := by omega
 have b0 : (q - y) * (q - y) = 0 := by omega
 have a1 : p - x = 0 := by rcases Int.mul_eq_zero.1 a0 with g | g <;> exact g
 have b1 : q - y = 0 := by rcases Int.mul_eq_zero.1 b0 with g | g <;> exact g
 exact h ⟨by omega, by omega⟩
theorem apart_l2 {js : List Jn} (h : (ckA js).1 = 0) {a b : Nat} (hab : a ≠ b) (ha : a < js.length) (hb : b < js.length) : (aptA (js.getD a jz) (js.getD b jz)).2.2 ≠ 0 := by
 rcases Nat.lt_or_ge a b with q | q
 ·obtain ⟨h1, h2⟩ := apart_lt h q hb
  unfold aptA
  rw [if_pos h1]
  exact sq_apart h2
 ·obtain ⟨h1, h2⟩ := apart_lt h (show b < a by omega) ha
  have h3 : aptB (js.getD a jz) (js.getD b jz) = true := by
   unfold aptB at h1 ⊢
   simp only [Bool.and_eq_true] at h1 ⊢
   exact ⟨⟨⟨h1.1.2, h1.2⟩, h1.1.1.1⟩, h1.1.1.2⟩
  unfold aptA
  rw [if_pos h3]
  exact sq_apart fun e => h2 ⟨e.1.symm, e.2.symm⟩
def spM (js : List Jn) (ms : List Mb) (k : Nat) : List Sg := spK (ms.getD k mz) (js.getD (ms.getD k mz).a.toNat jz) (js.getD (ms.getD k mz).b.toNat jz)
def sprA (js : List Jn) (ms : List Mb) : List Sg × Int := if (cpA js ms).1 = 0 then (sgAll (spM js ms) ms.length, 0) else ([], (cpA js ms).1)
theorem spK_len (m : Mb) (p q : Jn) : 1 ≤ (spK m p q).length ∧ (spK m p q).length ≤ 3 := by
 rw [spK_is]
 unfold spL
 split
 ·simp
 ·split
  ·simp
  ·split <;> simp
theorem cp_ck {js : List Jn} {ms : List Mb} (h : (cpA js ms).1 = 0) : (ckA js).1 = 0 := by
 by_cases hc : (ckA js).1 = 0
 ·exact hc
 ·unfold cpA at h
  rw [if_neg hc] at h
  exact h
def SprGave (w : World) (x : List Sg × Int) (e : Ending) (w' : World) : Prop := ∃ lo lc, e = .returned (.tuple #[.slice lo x.1.length lc, .int .i64 x.2]) ∧ SgRow w' lo x.1 ∧ Below w.heap.size w w'
set_option maxRecDepth 100000 in
set_option maxHeartbeats 8000000 in
theorem bspringsA_any (js : List Jn) (ms : List Mb) (ao mo : Option Addr) (ac mc : Nat) (w : World) (hr : JRow w ao js) (hw : JWs js) (hn : js.length ≤ 1125899906842624) (mr : MRow w mo ms) (mw : MWs ms) (mn : ms.length ≤ 1125899906842624) (hT : TabW w) :
  Calls Tryz.prog 5 #[.agg #[.slice ao js.length ac, .slice mo ms.length mc]] w (SprGave w (sprA js ms)) := by
 by_cases h0 : (cpA js ms).1 = 0
 ·obtain ⟨hc, _, f2, f3⟩ := cp_facts h0
  have hck := cp_ck h0
  have e : sprA js ms = (sgAll (spM js ms) ms.length, 0) := by unfold sprA; rw [if_pos h0]
  rw [e]
  refine (bsprings_any js ms ao mo ac mc w hr hw hn mr mw f2 hc (spM js ms) (fun k => spK_len _ _ _) (fun k hk => ?_) (fun k hk W hW => ?_) hT).mono fun e w' h => h
  ·have := mm_facts (f3 k hk)
   exact ⟨this.1, this.2.1⟩
  ·obtain ⟨⟨a0, a1⟩, ⟨b0, b1⟩, hab, he, ha, hi⟩ := mm_facts (f3 k hk)
   exact springs_any _ (mw.at hk) _ _ (apart_l2 hck (by omega) (by omega) (by omega)) he ha hi W hW
 ·have cc := fun w' (h : Below w.heap.size w w') => bcheck_any js ms ao mo ac mc w' (hr.below h) hw hn (mr.below h) mw mn
  have HE : Hid (sprA js ms = ([], (cpA js ms).1)) := (show _ = _ by unfold sprA; rw [if_neg h0])
  generalize sprA js ms = sp at *
  obtain ⟨⟨c1, c2⟩, hc⟩ : ∃ c, cpA js ms = c := ⟨_, rfl⟩
  rw [hc] at cc HE h0
  simp only at cc HE h0
  have hne : (c1 != 0) = true := by simpa using h0
  obtain ⟨N, hN⟩ : ∃ N, ms.length = N := ⟨_, rfl⟩
  obtain ⟨A, hA⟩ : ∃ A, js.length = A := ⟨_, rfl⟩
  rw [hN] at cc ⊢
  rw [hA] at cc ⊢
  have X0 := PBox.new w (.slice ao A ac) (.slice mo N mc) 29
  have hb0 : Below w.heap.size w (w.alloc (.cells #[.slice ao A ac, .slice mo N mc] 29)) := (Below.refl _ _).alloc (Nat.le_refl _) _
  clear hr hw hn mr mw mn hN hA hc h0
  go_enter Tryz.func5, Tryz.ntmps5
  go_upto_region 1 with fail
  generalize w.alloc (.cells #[.slice ao A ac, .slice mo N mc] 29) = W0 at *
  obtain ⟨x0, x1, _, _, _⟩ := id X0
  go_wp2_with (go_at_call 15; refine (cc _ hb0).mono ?_; rintro e w1 ⟨rfl, b1⟩)
  exact bodyPost_ret (v := .tuple #[.slice none 0 0, .int .i64 c1]) (by simp [results, Tryz.results5]) rfl ⟨none, 0, by rw [HE.out]; rfl, by rw [HE.out]; exact Or.inl rfl, hb0.trans (b1.mono hb0.size)⟩
def nA : Jn := (⟨#[97]⟩, 0, 0, 0)
def nB : Jn := (⟨#[98]⟩, 3, 4, 0)
def nM (a b : Bool) : Mb := ⟨⟨#[109]⟩, 2, 0, 1, a, b, 4611686018427387904, 4617315517961601024, 4619567317775286272⟩
abbrev b16N (t : TypeId) : Obj := .cells #[.bool false, .bool false, .bool false, .bool false, .bool false, .bool false, .bool false, .bool false, .bool false, .bool false, .bool false, .bool false, .bool false, .bool false, .bool false, .bool false] t
theorem b16N_new (w : World) (t : TypeId) : ∀ q, q < 16 → (w.alloc (b16N t)).cell? ⟨w.heap.size, q, none⟩ = some (.bool false) ∧ (w.alloc (b16N t)).frozen? ⟨w.heap.size, q, none⟩ = false := fun q hq => by
 rcases (show q = 0 ∨ q = 1 ∨ q = 2 ∨ q = 3 ∨ q = 4 ∨ q = 5 ∨ q = 6 ∨ q = 7 ∨ q = 8 ∨ q = 9 ∨ q = 10 ∨ q = 11 ∨ q = 12 ∨ q = 13 ∨ q = 14 ∨ q = 15 by omega) with rfl | rfl | rfl | rfl | rfl | rfl | rfl | rfl | rfl | rfl | rfl | rfl | rfl | rfl | rfl | rfl <;> simp [go_sem]
set_option maxRecDepth 100000 in
set_option maxHeartbeats 8000000 in
theorem turning_n (ao mo : Option Addr) (ac mc : Nat) (w : World) (mr : MRow w mo [nM false true]) :
  Calls Tryz.prog 66 #[.agg #[.slice ao 2 ac, .slice mo 1 mc]] w fun e w' => e = .returned (.agg #[.bool true, .bool false, .bool false, .bool false, .bool false, .bool false, .bool false, .bool false, .bool false, .bool false, .bool false, .bool false, .bool false, .bool false, .bool false, .bool false]) ∧ Below w.heap.size w w' := by
 rcases mr with h | ⟨b, off, e, hc⟩
 ·cases h
 subst e
 have gm := hc 0 (by decide)
 have bl : b < w.heap.size := gm.lt
 obtain ⟨u, eu⟩ : ∃ u, w.alloc (.cells #[.slice ao 2 ac, .slice (some ⟨b, off, none⟩) 1 mc] 29) = u := ⟨_, rfl⟩
 have su : Below w.heap.size w u := by rw [← eu]; exact (Below.refl _ _).alloc (Nat.le_refl _) _
 have uz : u.heap.size = w.heap.size + 1 := by rw [← eu]; simp
 have d1 : Below u.heap.size u (u.alloc (b16N 125)) := (Below.refl _ _).alloc (Nat.le_refl _) _
 have d2 : Below (u.alloc (b16N 125)).heap.size (u.alloc (b16N 125)) ((u.alloc (b16N 125)).alloc (b16N 125)) := (Below.refl _ _).alloc (Nat.le_refl _) _
 have rn := b16N_new u 125
 have tn := b16N_new (u.alloc (b16N 125)) 125
 have px : u.cell? ⟨w.heap.size, 1, none⟩ = some (.slice (some ⟨b, off, none⟩) 1 mc) := by rw [← eu]; simp [go_sem]
 have st := su.trans ((d1.trans (d2.mono d1.size)).mono su.size)
 obtain ⟨g0, g1, g2, g3, g4, g5, g6, g7, g8⟩ := gm.below st
 simp only [nM, List.getD_cons_zero, Nat.zero_mul, Nat.add_zero] at g0 g1 g2 g3 g4 g5 g6 g7 g8
 have hst := run_storef Tryz.prog
 go_enter Tryz.func66, Tryz.ntmps66
 go_upto_region 3 with fail
 generalize hW : (u.alloc (b16N 125)).alloc (b16N 125) = W at *
 have tl : w.heap.size + 1 + 1 < W.heap.size := by rw [← hW]; simp [uz]
 have rn2 : ∀ q, q < 16 → W.cell? ⟨w.heap.size + 1, q, none⟩ = some (.bool false) ∧ W.frozen? ⟨w.heap.size + 1, q, none⟩ = false := fun q hq => by
  have := rn q hq
  rw [uz] at this
  exact ⟨(d2.cell (p := ⟨w.heap.size + 1, q, none⟩) (by simp [uz])).trans this.1, (d2.frozen (p := ⟨w.heap.size + 1, q, none⟩) (by simp [uz])).trans this.2⟩
 have tn2 : ∀ q, q < 16 → W.cell? ⟨w.heap.size + 1 + 1, q, none⟩ = some (.bool false) ∧ W.frozen? ⟨w.heap.size + 1 + 1, q, none⟩ = false := fun q hq => by
  have := tn q hq
  rwa [show (u.alloc (b16N 125)).heap.size = w.heap.size + 1 + 1 by simp [uz]] at this
 clear rn tn d1 d2 hW su uz px eu
 refine wp_loop_rounds 2 ?_
 rw [rounds_succ]
 go_upto_region 6 with fail
 obtain ⟨⟨_, _, y2, y3, y4, y5, _, _, _⟩, _, _, _, _, _, _, _, _, _, yl⟩ := MBox.new W (nM false true) 38
 have s2 : Below W.heap.size W (W.alloc (mO (nM false true) 38)) := (Below.refl _ _).alloc (Nat.le_refl _) _
 simp only [nM, mO] at y2 y3 y4 y5 s2 yl
 replace tn2 : ∀ q, q < 16 → _ := fun q hq => And.intro ((s2.cell (p := ⟨w.heap.size + 1 + 1, q, none⟩) tl).trans (tn2 q hq).1) ((s2.frozen (p := ⟨w.heap.size + 1 + 1, q, none⟩) tl).trans (tn2 q hq).2)
 replace rn2 : ∀ q, q < 16 → _ := fun q hq => And.intro ((s2.cell (p := ⟨w.heap.size + 1, q, none⟩) (Nat.lt_of_succ_lt tl)).trans (rn2 q hq).1) ((s2.frozen (p := ⟨w.heap.size + 1, q, none⟩) (Nat.lt_of_succ_lt tl)).trans (rn2 q hq).2)
 replace st := st.trans (s2.mono st.size)
 generalize W.alloc (.cells #[.string ⟨#[109]⟩, .int .u8 2, .int .i64 0, .int .i64 1, .bool false, .bool true, .float .f64 4611686018427387904, .float .f64 4617315517961601024, .float .f64 4619567317775286272] 38) = V at *
 clear g0 g1 g2 g3 g4 g5 g6 g7 g8 s2
 obtain ⟨a0, z0⟩ := tn2 0 (by omega)
 obtain ⟨a1, z1⟩ := tn2 1 (by omega)
 go_region
 go_upto_region 7 with fail
 go_region
 obtain ⟨a2, _⟩ := tn2 2 (by omega)
 obtain ⟨a3, _⟩ := tn2 3 (by omega)
 obtain ⟨a4, _⟩ := tn2 4 (by omega)
 obtain ⟨a5, _⟩ := tn2 5 (by omega)
 obtain ⟨a6, _⟩ := tn2 6 (by omega)
 obtain ⟨a7, _⟩ := tn2 7 (by omega)
 obtain ⟨a8, _⟩ := tn2 8 (by omega)
 obtain ⟨a9, _⟩ := tn2 9 (by omega)
 obtain ⟨a10, _⟩ := tn2 10 (by omega)
 obtain ⟨a11, _⟩ := tn2 11 (by omega)
 obtain ⟨a12, _⟩ := tn2 12 (by omega)
 obtain ⟨a13, _⟩ := tn2 13 (by omega)
 obtain ⟨a14, _⟩ := tn2 14 (by omega)
 obtain ⟨a15, _⟩ := tn2 15 (by omega)
 obtain ⟨r0, s0⟩ := rn2 0 (by omega)
 obtain ⟨r1, s1⟩ := rn2 1 (by omega)
 obtain ⟨r2, s2⟩ := rn2 2 (by omega)
 obtain ⟨r3, s3⟩ := rn2 3 (by omega)
 obtain ⟨r4, s4⟩ := rn2 4 (by omega)
 obtain ⟨r5, s5⟩ := rn2 5 (by omega)
 obtain ⟨r6, s6⟩ := rn2 6 (by omega)
 obtain ⟨r7, s7⟩ := rn2 7 (by omega)
 obtain ⟨r8, s8⟩ := rn2 8 (by omega)
 obtain ⟨r9, s9⟩ := rn2 9 (by omega)
 obtain ⟨r10, s10⟩ := rn2 10 (by omega)
 obtain ⟨r11, s11⟩ := rn2 11 (by omega)
 obtain ⟨r12, s12⟩ := rn2 12 (by omega)
 obtain ⟨r13, s13⟩ := rn2 13 (by omega)
 obtain ⟨r14, s14⟩ := rn2 14 (by omega)
 obtain ⟨r15, s15⟩ := rn2 15 (by omega)
 clear tn2 rn2 y2 y3 y4 y5
 go_upto_region 8 with fail
 go_wp2
 rw [rounds_succ]
 go_wp2
 refine bodyPost_ret (v := .agg #[.bool true, .bool false, .bool false, .bool false, .bool false, .bool false, .bool false, .bool false, .bool false, .bool false, .bool false, .bool false, .bool false, .bool false, .bool false, .bool false]) ?_ rfl ⟨rfl, ?_⟩
 ·simp [results, Tryz.results66, go_sem, r0, r1, r2, r3, r4, r5, r6, r7, r8, r9, r10, r11, r12, r13, r14, r15]
 refine Below.drew (Below.drew ?_)
 iterate 16 refine Below.setCell ?_ (Nat.le_succ _) _
 exact Below.setCell (p := ⟨w.heap.size + 1 + 1, 1, none⟩) (Below.setCell (p := ⟨w.heap.size + 1 + 1, 0, none⟩) st (by simp only; omega) _) (by simp only; omega) _
theorem make3n (w : World) : (Instr.makeSlice 72 (.int .i64 2) (.int .i64 2)).run Tryz.prog w = .ok (.slice (some ⟨w.heap.size, 0, none⟩) 2 2) (w.alloc (.cells #[.int .i64 0, .int .i64 0, .int .i64 0, .int .i64 0, .int .i64 0, .int .i64 0] 77)) := by
 obtain ⟨i, hi, hz0, hz1, hz2⟩ := info_span Tryz.info3
 have h := run_make (P := Tryz.prog) w 72 77 i _ Tryz.underlying72 hi hz0 .i64 .i64 2 2 (by omega) (Int.le_refl _) (by rw [hz2]; omega) (by omega)
 rw [hz1, show (Value.agg #[.int .i64 0, .int .i64 0, .int .i64 0]).cells = #[.int .i64 0, .int .i64 0, .int .i64 0] from rfl, show madeCells #[.int .i64 0, .int .i64 0, .int .i64 0] (Int.toNat 2 * 3) = #[.int .i64 0, .int .i64 0, .int .i64 0, .int .i64 0, .int .i64 0, .int .i64 0] by kernel_rfl] at h
 exact h
theorem jcell {w : World} {ao : Option Addr} (h : JRow w ao [nA, nB]) : ∃ b off, ao = some ⟨b, off, none⟩ ∧ b < w.heap.size ∧ ∀ W, Below w.heap.size w W → (W.cell? ⟨b, off, none⟩ = some (.string ⟨#[97]⟩) ∧ W.cell? ⟨b, off + 1, none⟩ = some (.int .i32 0) ∧ W.cell? ⟨b, off + 2, none⟩ = some (.int .i32 0) ∧ W.cell? ⟨b, off + 3, none⟩ = some (.int .u8 0)) ∧ W.cell? ⟨b, off + 4, none⟩ = some (.string ⟨#[98]⟩) ∧ W.cell? ⟨b, off + 4 + 1, none⟩ = some (.int .i32 3) ∧ W.cell? ⟨b, off + 4 + 2, none⟩ = some (.int .i32 4) ∧ W.cell? ⟨b, off + 4 + 3, none⟩ = some (.int .u8 0) := by
 rcases h with h | ⟨b, off, e, hc⟩
 ·cases h
 have h0 := hc 0 (by decide)
 have h1 := hc 1 (by decide)
 have bl : b < w.heap.size := World.block_lt_of_cell? _ _ h0.1
 exact ⟨b, off, e, bl, fun W hW => ⟨⟨(hW.cell (p := ⟨b, off, none⟩) bl).trans h0.1, (hW.cell (p := ⟨b, off + 1, none⟩) bl).trans h0.2.1, (hW.cell (p := ⟨b, off + 2, none⟩) bl).trans h0.2.2.1, (hW.cell (p := ⟨b, off + 3, none⟩) bl).trans h0.2.2.2⟩, (hW.cell (p := ⟨b, off + 4, none⟩) bl).trans h1.1, (hW.cell (p := ⟨b, off + 4 + 1, none⟩) bl).trans h1.2.1, (hW.cell (p := ⟨b, off + 4 + 2, none⟩) bl).trans h1.2.2.1, (hW.cell (p := ⟨b, off + 4 + 3, none⟩) bl).trans h1.2.2.2⟩⟩
def UF (w : World) (gb tb : Nat) (c : Nat → Int) (n : Int) : Prop := (∀ k, k < 6 → w.cell? ⟨gb, k, none⟩ = some (.int .i64 (c k)) ∧ w.frozen? ⟨gb, k, none⟩ = false) ∧ (w.cell? ⟨gb + 1, 0, none⟩ = some (.slice (some ⟨gb, 0, none⟩) 2 2) ∧ w.cell? ⟨gb + 1, 1, none⟩ = some (.int .i64 n) ∧ w.frozen? ⟨gb + 1, 1, none⟩ = false) ∧ (w.cell? ⟨tb, 0, none⟩ = some (.bool true) ∧ w.cell? ⟨tb, 1, none⟩ = some (.bool false)) ∧ gb + 1 < w.heap.size ∧ tb < gb
theorem UF.below {w w' : World} {gb tb : Nat} {c : Nat → Int} {n : Int} (h : UF w gb tb c n) (b : Below w.heap.size w w') : UF w' gb tb c n := by
 obtain ⟨h1, ⟨h2, h3, h4⟩, ⟨h5, h6⟩, l, t⟩ := h
 exact ⟨fun k hk => ⟨(b.cell (p := ⟨gb, k, none⟩) (Nat.lt_of_succ_lt l)).trans (h1 k hk).1, (b.frozen (p := ⟨gb, k, none⟩) (Nat.lt_of_succ_lt l)).trans (h1 k hk).2⟩, ⟨(b.cell (p := ⟨gb + 1, 0, none⟩) l).trans h2, (b.cell (p := ⟨gb + 1, 1, none⟩) l).trans h3, (b.frozen (p := ⟨gb + 1, 1, none⟩) l).trans h4⟩, ⟨(b.cell (p := ⟨tb, 0, none⟩) (by simp only; omega)).trans h5, (b.cell (p := ⟨tb, 1, none⟩) (by simp only; omega)).trans h6⟩, Nat.lt_of_lt_of_le l b.size, t⟩
theorem UF.congr {w : World} {gb tb : Nat} {c c' : Nat → Int} {n : Int} (h : UF w gb tb c n) (e : ∀ k, k < 6 → c k = c' k) : UF w gb tb c' n := ⟨fun k hk => ⟨by rw [← e k hk]; exact (h.1 k hk).1, (h.1 k hk).2⟩, h.2⟩
def cS (m k : Nat) : Int := if k < m then (if k = 5 then -1 else (k : Int)) else 0
def nS (m : Nat) : Int := if m ≤ 5 then (m : Int) else 5
theorem UF.put {w : World} {gb tb : Nat} {c : Nat → Int} {n : Int} (h : UF w gb tb c n) {a : Nat} (ha : a < 6) (v : Int) : UF (w.setCell ⟨gb, a, none⟩ (.int .i64 v)) gb tb (fun i => if i = a then v else c i) n := by
 obtain ⟨h1, ⟨h2, h3, h4⟩, ⟨h5, h6⟩, l, t⟩ := h
 have n0 : tb ≠ gb := by omega
 obtain ⟨ha1, ha2⟩ := h1 a ha
 refine ⟨fun k hk => ?_, ⟨by simp [go_sem, h2], by simp [go_sem, h3], by simp [go_sem, h4]⟩, ⟨by simp [go_sem, h5], by simp [go_sem, h6]⟩, by simpa [World.setCell] using l, t⟩
 obtain ⟨hk1, hk2⟩ := h1 k hk
 refine ⟨?_, by simp [go_sem, hk2]⟩
 show _ = some (Value.int .i64 (if _ then _ else _))
 by_cases e : k = a
 ·subst e
  rw [if_pos rfl]
  go_simp
 ·rw [if_neg e]
  simp [go_sem, hk1]
theorem UF.num {w : World} {gb tb : Nat} {c : Nat → Int} {n : Int} (h : UF w gb tb c n) (m : Int) : UF (w.setCell ⟨gb + 1, 1, none⟩ (.int .i64 m)) gb tb c m := by
 obtain ⟨h1, ⟨h2, h3, h4⟩, ⟨h5, h6⟩, l, t⟩ := h
 have n0 : tb ≠ gb + 1 := by omega
 refine ⟨fun k hk => ?_, ⟨by simp [go_sem, h2], by go_simp, by simp [go_sem, h4]⟩, ⟨by simp [go_sem, h5], by simp [go_sem, h6]⟩, by simpa [World.setCell] using l, t⟩
 obtain ⟨hk1, hk2⟩ := h1 k hk
 exact ⟨by simp [go_sem, hk1], by simp [go_sem, hk2]⟩
set_option maxRecDepth 100000 in
set_option maxHeartbeats 8000000 in
theorem unknowns_n (ao mo : Option Addr) (ac mc : Nat) (w : World) (hr : JRow w ao [nA, nB]) (mr : MRow w mo [nM false true]) :
  Calls Tryz.prog 46 #[.agg #[.slice ao 2 ac, .slice mo 1 mc]] w (fun e w' => ∃ g, e = .returned (.agg #[.slice (some ⟨g, 0, none⟩) 2 2, .int .i64 5]) ∧ P3Row w' (some ⟨g, 0, none⟩) [(0, 1, 2), (3, 4, -1)] ∧ Below w.heap.size w w') := by
 have ct := fun w' (h : Below w.heap.size w w') => turning_n ao mo ac mc w' (mr.below h)
 obtain ⟨jb, jo, rfl, jl, hj⟩ := jcell hr
 have X0 := (PBox.new w (.slice (some ⟨jb, jo, none⟩) 2 ac) (.slice mo 1 mc) 29).alloc (.cells #[.slice none 0 0, .int .i64 0] 74)
 have X1 := PBox.new (w.alloc (.cells #[.slice (some ⟨jb, jo, none⟩) 2 ac, .slice mo 1 mc] 29)) (.slice none 0 0) (.int .i64 0) 74
 have hs1 : (w.alloc (.cells #[.slice (some ⟨jb, jo, none⟩) 2 ac, .slice mo 1 mc] 29)).heap.size = w.heap.size + 1 := by simp
 rw [hs1] at X1
 have hb0 : Below w.heap.size w ((w.alloc (.cells #[.slice (some ⟨jb, jo, none⟩) 2 ac, .slice mo 1 mc] 29)).alloc (.cells #[.slice none 0 0, .int .i64 0] 74)) := ((Below.refl _ _).alloc (Nat.le_refl _) _).alloc (by rw [hs1]; omega) _
 clear hs1 hr mr
 go_enter Tryz.func46, Tryz.ntmps46
 go_upto_region 1 with fail
 generalize (w.alloc (.cells #[.slice (some ⟨jb, jo, none⟩) 2 ac, .slice mo 1 mc] 29)).alloc (.cells #[.slice none 0 0, .int .i64 0] 74) = U0 at *
 obtain ⟨x0, x1, f0, f1, x4⟩ := id X0
 go_upto_region 2 with (go_at_call 66; refine (ct _ hb0).mono ?_; rintro e w1 ⟨rfl, b1⟩)
 have l0 : w.heap.size + 1 < w1.heap.size := Nat.lt_of_lt_of_le X1.lt b1.size
 have tv : (w1.alloc (.cells #[.bool true, .bool false, .bool false, .bool false, .bool false, .bool false, .bool false, .bool false, .bool false, .bool false, .bool false, .bool false, .bool false, .bool false, .bool false, .bool false] 125)).cell? ⟨w1.heap.size, 0, none⟩ = some (.bool true) ∧ (w1.alloc (.cells #[.bool true, .bool false, .bool false, .bool false, .bool false, .bool false, .bool false, .bool false, .bool false, .bool false, .bool false, .bool false, .bool false, .bool false, .bool false, .bool false] 125)).cell? ⟨w1.heap.size, 1, none⟩ = some (.bool false) := by simp [go_sem]
 have b2 := b1.trans (((Below.refl w1.heap.size w1).alloc (Nat.le_refl _) (.cells #[.bool true, .bool false, .bool false, .bool false, .bool false, .bool false, .bool false, .bool false, .bool false, .bool false, .bool false, .bool false, .bool false, .bool false, .bool false, .bool false] 125)).mono b1.size)
 have l1 : w1.heap.size < (w1.alloc (.cells #[.bool true, .bool false, .bool false, .bool false, .bool false, .bool false, .bool false, .bool false, .bool false, .bool false, .bool false, .bool false, .bool false, .bool false, .bool false, .bool false] 125)).heap.size := by simp
 replace X0 := X0.below b2
 replace X1 := X1.below b2
 have hb2 := hb0.trans (b2.mono hb0.size)
 clear x0 x1 f0 f1 x4 ct hb0 b1 b2
 generalize w1.alloc (.cells #[.bool true, .bool false, .bool false, .bool false, .bool false, .bool false, .bool false, .bool false, .bool false, .bool false, .bool false, .bool false, .bool false, .bool false, .bool false, .bool false] 125) = U1 at *
 generalize w1.heap.size = tb at *
 have mk := make3n U1
 obtain ⟨x0, x1, f0, f1, x4⟩ := id X0
 go_upto_region 3 with fail
 have d1 : Below U1.heap.size U1 (U1.alloc (.cells #[.int .i64 0, .int .i64 0, .int .i64 0, .int .i64 0, .int .i64 0, .int .i64 0] 77)) := (Below.refl _ _).alloc (Nat.le_refl _) _
 have d2 := d1.alloc d1.size (.cells #[.slice (some ⟨U1.heap.size, 0, none⟩) 2 2, .int .i64 0] 74)
 have q : ∀ k, k < 6 → ((U1.alloc (.cells #[.int .i64 0, .int .i64 0, .int .i64 0, .int .i64 0, .int .i64 0, .int .i64 0] 77)).alloc (.cells #[.slice (some ⟨U1.heap.size, 0, none⟩) 2 2, .int .i64 0] 74)).cell? ⟨U1.heap.size, k, none⟩ = some (.int .i64 0) ∧ ((U1.alloc (.cells #[.int .i64 0, .int .i64 0, .int .i64 0, .int .i64 0, .int .i64 0, .int .i64 0] 77)).alloc (.cells #[.slice (some ⟨U1.heap.size, 0, none⟩) 2 2, .int .i64 0] 74)).frozen? ⟨U1.heap.size, k, none⟩ = false := fun k hk => by
  rcases (show k = 0 ∨ k = 1 ∨ k = 2 ∨ k = 3 ∨ k = 4 ∨ k = 5 by omega) with rfl | rfl | rfl | rfl | rfl | rfl <;> simp [go_sem]
 have hP := PBox.new (U1.alloc (.cells #[.int .i64 0, .int .i64 0, .int .i64 0, .int .i64 0, .int .i64 0, .int .i64 0] 77)) (.slice (some ⟨U1.heap.size, 0, none⟩) 2 2) (.int .i64 0) 74
 rw [show (U1.alloc (.cells #[.int .i64 0, .int .i64 0, .int .i64 0, .int .i64 0, .int .i64 0, .int .i64 0] 77)).heap.size = U1.heap.size + 1 by simp] at hP
 have t0 := (d2.cell (p := ⟨tb, 0, none⟩) l1).trans tv.1
 have t1 := (d2.cell (p := ⟨tb, 1, none⟩) l1).trans tv.2
 replace X0 := X0.below d2
 replace X1 := X1.below d2
 have hw := hb2.trans (d2.mono hb2.size)
 clear d1 d2 tv x0 x1 f0 f1 x4 mk
 have l2 : tb < U1.heap.size := l1
 generalize (U1.alloc (.cells #[.int .i64 0, .int .i64 0, .int .i64 0, .int .i64 0, .int .i64 0, .int .i64 0] 77)).alloc (.cells #[.slice (some ⟨U1.heap.size, 0, none⟩) 2 2, .int .i64 0] 74) = V0 at *
 have hg0 : w.heap.size ≤ U1.heap.size := hb2.size
 clear hb2 l1
 generalize U1.heap.size = gb at *
 obtain ⟨x0, x1, _, _, _⟩ := id X0
 have F : UF V0 gb tb (fun _ => 0) 0 := ⟨q, ⟨hP.c0, hP.c1, hP.f1⟩, ⟨t0, t1⟩, hP.lt, l2⟩
 clear q hP t0 t1
 have n0 : jb < gb := by omega
 have n9 : gb ≤ gb + 1 := by omega
 have hg : Below gb V0 V0 := Below.refl _ _
 have k1 : bits .and .u8 0 1 = 0 := by kernel_rfl
 have k2 : bits .and .u8 0 2 = 0 := by kernel_rfl
 have k4 : bits .and .u8 0 4 = 0 := by kernel_rfl
 go_upto_region 4 with fail
 go_loopg [20] 2 (fun gh v wr => ∃ i : Nat, i ≤ 2 ∧ gh = 2 - i ∧ v = .int .i64 i ∧ UF wr gb tb (cS (3 * i)) (nS (3 * i)) ∧ Below gb V0 wr)
 case atStart => exact ⟨0, by omega, rfl, rfl, F.congr (by decide), Below.refl _ _⟩
 case round =>
  clear F hg
  obtain ⟨i, hi, hgk, rfl, F, hg⟩ := hrel
  have HG : Hid (gk = 2 - i) := hgk
  clear hgk
  rcases (show i = 0 ∨ i = 1 ∨ i = 2 by omega) with rfl | rfl | rfl
  ·replace F : UF wr gb tb (cS 0) 0 := F
   obtain ⟨⟨j0, j1, j2, j3⟩, j4, j5, j6, j7⟩ := hj wr (hw.trans (hg.mono hg0))
   have jv : jb < wr.heap.size := World.block_lt_of_cell? _ _ j0
   have gv : gb ≤ wr.heap.size := Nat.le_of_lt (Nat.lt_of_succ_lt F.2.2.2.1)
   go_upto_region 6 with fail
   obtain ⟨xj, zj⟩ : (wr.alloc (.cells #[.string ⟨#[97]⟩, .int .i32 0, .int .i32 0, .int .u8 0] 40)).cell? ⟨wr.heap.size, 3, none⟩ = some (.int .u8 0) ∧ wr.heap.size < (wr.alloc (.cells #[.string ⟨#[97]⟩, .int .i32 0, .int .i32 0, .int .u8 0] 40)).heap.size := by simp [go_sem]
   replace F := F.below ((Below.refl wr.heap.size wr).alloc (Nat.le_refl _) (.cells #[.string ⟨#[97]⟩, .int .i32 0, .int .i32 0, .int .u8 0] 40))
   replace hg := hg.alloc gv (.cells #[.string ⟨#[97]⟩, .int .i32 0, .int .i32 0, .int .u8 0] 40)
   clear j0 j1 j2 j3 j4 j5 j6 j7 jv
   generalize wr.alloc (.cells #[.string ⟨#[97]⟩, .int .i32 0, .int .i32 0, .int .u8 0] 40) = V at *
   replace gv : gb ≤ V.heap.size := Nat.le_trans gv (Nat.le_of_lt zj)
   generalize wr.heap.size = jx at *
   obtain ⟨-, -, ⟨t0, t1⟩, f3⟩ := id F
   have s1 := (Below.refl V.heap.size V).alloc (Nat.le_refl _) (.cells #[.bool false, .bool false, .bool false] 127)
   have t3 := (s1.cell (p := ⟨tb, 0, none⟩) (by simp only; omega)).trans t0
   have xk := (s1.cell (p := ⟨jx, 3, none⟩) zj).trans xj
   go_region
   replace F := F.below (((Below.refl V.heap.size V).alloc (Nat.le_refl _) (.cells #[.bool true, .bool true, .bool true] 127)).drew)
   replace hg := (hg.alloc gv (.cells #[.bool true, .bool true, .bool true] 127)).drew
   obtain ⟨r0, r1, r2⟩ : (V.alloc (.cells #[.bool true, .bool true, .bool true] 127)).drew.cell? ⟨V.heap.size, 0, none⟩ = some (.bool true) ∧ (V.alloc (.cells #[.bool true, .bool true, .bool true] 127)).drew.cell? ⟨V.heap.size, 1, none⟩ = some (.bool true) ∧ (V.alloc (.cells #[.bool true, .bool true, .bool true] 127)).drew.cell? ⟨V.heap.size, 2, none⟩ = some (.bool true) := by simp [go_sem]
   clear s1 t3 xk xj t0 t1 f3 zj gv
   generalize (V.alloc (.cells #[.bool true, .bool true, .bool true] 127)).drew = V2 at *
   generalize V.heap.size = bx at *
   go_upto_region 8 with fail
   clear r0 r1 r2
   go_loopg [44] 3 (fun gh v wr => ∃ k : Nat, k ≤ 3 ∧ gh = 3 - k ∧ v = .int .i64 k ∧ UF wr gb tb (cS (0 + k)) (nS (0 + k)) ∧ Below gb V0 wr)
   case atStart => exact ⟨0, by omega, rfl, rfl, F, hg⟩
   case round =>
    clear F hg
    obtain ⟨k, hk, hgk, rfl, F, hg⟩ := hrel
    have HG2 : Hid (gk = 3 - k) := hgk
    clear hgk
    rcases (show k = 0 ∨ k = 1 ∨ k = 2 ∨ k = 3 by omega) with rfl | rfl | rfl | rfl
    ·replace F : UF wr gb tb (cS 0) 0 := F
     obtain ⟨h1, ⟨o0, o1, u1⟩, -⟩ := id F
     obtain ⟨q, v⟩ := h1 0 (by omega)
     have hix : ∀ w, (Instr.index 127 (.agg #[.bool true, .bool true, .bool true]) (.int .i64 0)).run Tryz.prog w = .ok (.bool true) w := fun w => by kernel_rfl
     clear h1
     go_upto_region 12 with fail
     replace F := F.put (a := 0) (by omega) (-1)
     replace hg := hg.setCell (p := ⟨gb, 0, none⟩) (Nat.le_refl _) (.int .i64 (-1))
     clear o0 o1 u1 q v hix
     generalize wr.setCell ⟨gb, 0, none⟩ (.int .i64 (-1)) = V at *
     obtain ⟨h1, ⟨o0, o1, u1⟩, -⟩ := id F
     obtain ⟨q, v⟩ := h1 0 (by omega)
     clear h1
     go_region_held3 (fun w' => w'.cell? ⟨gb + 1, 0, none⟩ = some (.slice (some ⟨gb, 0, none⟩) 2 2) ∧ w'.cell? ⟨gb + 1, 1, none⟩ = some (.int .i64 0)) (go_keep) (fail)
     go_wp2
     go_roundg (3 - 1)
     case measure => rw [HG2.out]; omega
     case rel => exact ⟨1, by omega, rfl, rfl, (((F.put (a := 0) (by omega) 0).num 1).below ((Below.refl _ _).drew)).congr (by decide), ((hg.setCell (p := ⟨gb, 0, none⟩) (Nat.le_refl _) (.int .i64 0)).setCell (p := ⟨gb + 1, 1, none⟩) n9 (.int .i64 1)).drew⟩
    ·replace F : UF wr gb tb (cS 1) 1 := F
     obtain ⟨h1, ⟨o0, o1, u1⟩, -⟩ := id F
     obtain ⟨q, v⟩ := h1 1 (by omega)
     have hix : ∀ w, (Instr.index 127 (.agg #[.bool true, .bool true, .bool true]) (.int .i64 1)).run Tryz.prog w = .ok (.bool true) w := fun w => by kernel_rfl
     clear h1
     go_upto_region 12 with fail
     replace F := F.put (a := 1) (by omega) (-1)
     replace hg := hg.setCell (p := ⟨gb, 1, none⟩) (Nat.le_refl _) (.int .i64 (-1))
     clear o0 o1 u1 q v hix
     generalize wr.setCell ⟨gb, 1, none⟩ (.int .i64 (-1)) = V at *
     obtain ⟨h1, ⟨o0, o1, u1⟩, -⟩ := id F
     obtain ⟨q, v⟩ := h1 1 (by omega)
     clear h1
     go_region_held3 (fun w' => w'.cell? ⟨gb + 1, 0, none⟩ = some (.slice (some ⟨gb, 0, none⟩) 2 2) ∧ w'.cell? ⟨gb + 1, 1, none⟩ = some (.int .i64 1)) (go_keep) (fail)
     go_wp2
     go_roundg (3 - 2)
     case measure => rw [HG2.out]; omega
     case rel => exact ⟨2, by omega, rfl, rfl, (((F.put (a := 1) (by omega) 1).num 2).below ((Below.refl _ _).drew)).congr (by decide), ((hg.setCell (p := ⟨gb, 1, none⟩) (Nat.le_refl _) (.int .i64 1)).setCell (p := ⟨gb + 1, 1, none⟩) n9 (.int .i64 2)).drew⟩
    ·replace F : UF wr gb tb (cS 2) 2 := F
     obtain ⟨h1, ⟨o0, o1, u1⟩, -⟩ := id F
     obtain ⟨q, v⟩ := h1 2 (by omega)
     have hix : ∀ w, (Instr.index 127 (.agg #[.bool true, .bool true, .bool true]) (.int .i64 2)).run Tryz.prog w = .ok (.bool true) w := fun w => by kernel_rfl
     clear h1
     go_upto_region 12 with fail
     replace F := F.put (a := 2) (by omega) (-1)
     replace hg := hg.setCell (p := ⟨gb, 2, none⟩) (Nat.le_refl _) (.int .i64 (-1))
     clear o0 o1 u1 q v hix
     generalize wr.setCell ⟨gb, 2, none⟩ (.int .i64 (-1)) = V at *
     obtain ⟨h1, ⟨o0, o1, u1⟩, -⟩ := id F
     obtain ⟨q, v⟩ := h1 2 (by omega)
     clear h1
     go_region_held3 (fun w' => w'.cell? ⟨gb + 1, 0, none⟩ = some (.slice (some ⟨gb, 0, none⟩) 2 2) ∧ w'.cell? ⟨gb + 1, 1, none⟩ = some (.int .i64 2)) (go_keep) (fail)
     go_wp2
     go_roundg (3 - 3)
     case measure => rw [HG2.out]; omega
     case rel => exact ⟨3, by omega, rfl, rfl, (((F.put (a := 2) (by omega) 2).num 3).below ((Below.refl _ _).drew)).congr (by decide), ((hg.setCell (p := ⟨gb, 2, none⟩) (Nat.le_refl _) (.int .i64 2)).setCell (p := ⟨gb + 1, 1, none⟩) n9 (.int .i64 3)).drew⟩
    ·go_wp2
     go_roundg (2 - 1)
     case measure => rw [HG.out]; omega
     case rel => exact ⟨1, by omega, rfl, rfl, F, hg⟩
  ·replace F : UF wr gb tb (cS 3) 3 := F
   obtain ⟨⟨j0, j1, j2, j3⟩, j4, j5, j6, j7⟩ := hj wr (hw.trans (hg.mono hg0))
   have jv : jb < wr.heap.size := World.block_lt_of_cell? _ _ j0
   have gv : gb ≤ wr.heap.size := Nat.le_of_lt (Nat.lt_of_succ_lt F.2.2.2.1)
   go_upto_region 6 with fail
   obtain ⟨xj, zj⟩ : (wr.alloc (.cells #[.string ⟨#[98]⟩, .int .i32 3, .int .i32 4, .int .u8 0] 40)).cell? ⟨wr.heap.size, 3, none⟩ = some (.int .u8 0) ∧ wr.heap.size < (wr.alloc (.cells #[.string ⟨#[98]⟩, .int .i32 3, .int .i32 4, .int .u8 0] 40)).heap.size := by simp [go_sem]
   replace F := F.below ((Below.refl wr.heap.size wr).alloc (Nat.le_refl _) (.cells #[.string ⟨#[98]⟩, .int .i32 3, .int .i32 4, .int .u8 0] 40))
   replace hg := hg.alloc gv (.cells #[.string ⟨#[98]⟩, .int .i32 3, .int .i32 4, .int .u8 0] 40)
   clear j0 j1 j2 j3 j4 j5 j6 j7 jv
   generalize wr.alloc (.cells #[.string ⟨#[98]⟩, .int .i32 3, .int .i32 4, .int .u8 0] 40) = V at *
   replace gv : gb ≤ V.heap.size := Nat.le_trans gv (Nat.le_of_lt zj)
   generalize wr.heap.size = jx at *
   obtain ⟨-, -, ⟨t0, t1⟩, f3⟩ := id F
   have s1 := (Below.refl V.heap.size V).alloc (Nat.le_refl _) (.cells #[.bool false, .bool false, .bool false] 127)
   have t3 := (s1.cell (p := ⟨tb, 1, none⟩) (by simp only; omega)).trans t1
   have xk := (s1.cell (p := ⟨jx, 3, none⟩) zj).trans xj
   go_region
   replace F := F.below (((Below.refl V.heap.size V).alloc (Nat.le_refl _) (.cells #[.bool true, .bool true, .bool false] 127)).drew)
   replace hg := (hg.alloc gv (.cells #[.bool true, .bool true, .bool false] 127)).drew
   obtain ⟨r0, r1, r2⟩ : (V.alloc (.cells #[.bool true, .bool true, .bool false] 127)).drew.cell? ⟨V.heap.size, 0, none⟩ = some (.bool true) ∧ (V.alloc (.cells #[.bool true, .bool true, .bool false] 127)).drew.cell? ⟨V.heap.size, 1, none⟩ = some (.bool true) ∧ (V.alloc (.cells #[.bool true, .bool true, .bool false] 127)).drew.cell? ⟨V.heap.size, 2, none⟩ = some (.bool false) := by simp [go_sem]
   clear s1 t3 xk xj t0 t1 f3 zj gv
   generalize (V.alloc (.cells #[.bool true, .bool true, .bool false] 127)).drew = V2 at *
   generalize V.heap.size = bx at *
   go_upto_region 8 with fail
   clear r0 r1 r2
   go_loopg [44] 3 (fun gh v wr => ∃ k : Nat, k ≤ 3 ∧ gh = 3 - k ∧ v = .int .i64 k ∧ UF wr gb tb (cS (3 + k)) (nS (3 + k)) ∧ Below gb V0 wr)
   case atStart => exact ⟨0, by omega, rfl, rfl, F, hg⟩
   case round =>
    clear F hg
    obtain ⟨k, hk, hgk, rfl, F, hg⟩ := hrel
    have HG2 : Hid (gk = 3 - k) := hgk
    clear hgk
    rcases (show k = 0 ∨ k = 1 ∨ k = 2 ∨ k = 3 by omega) with rfl | rfl | rfl | rfl
    ·replace F : UF wr gb tb (cS 3) 3 := F
     obtain ⟨h1, ⟨o0, o1, u1⟩, -⟩ := id F
     obtain ⟨q, v⟩ := h1 3 (by omega)
     have hix : ∀ w, (Instr.index 127 (.agg #[.bool true, .bool true, .bool false]) (.int .i64 0)).run Tryz.prog w = .ok (.bool true) w := fun w => by kernel_rfl
     clear h1
     go_upto_region 12 with fail
     replace F := F.put (a := 3) (by omega) (-1)
     replace hg := hg.setCell (p := ⟨gb, 3, none⟩) (Nat.le_refl _) (.int .i64 (-1))
     clear o0 o1 u1 q v hix
     generalize wr.setCell ⟨gb, 3, none⟩ (.int .i64 (-1)) = V at *
     obtain ⟨h1, ⟨o0, o1, u1⟩, -⟩ := id F
     obtain ⟨q, v⟩ := h1 3 (by omega)
     clear h1
     go_region_held3 (fun w' => w'.cell? ⟨gb + 1, 0, none⟩ = some (.slice (some ⟨gb, 0, none⟩) 2 2) ∧ w'.cell? ⟨gb + 1, 1, none⟩ = some (.int .i64 3)) (go_keep) (fail)
     go_wp2
     go_roundg (3 - 1)
     case measure => rw [HG2.out]; omega
     case rel => exact ⟨1, by omega, rfl, rfl, (((F.put (a := 3) (by omega) 3).num 4).below ((Below.refl _ _).drew)).congr (by decide), ((hg.setCell (p := ⟨gb, 3, none⟩) (Nat.le_refl _) (.int .i64 3)).setCell (p := ⟨gb + 1, 1, none⟩) n9 (.int .i64 4)).drew⟩
    ·replace F : UF wr gb tb (cS 4) 4 := F
     obtain ⟨h1, ⟨o0, o1, u1⟩, -⟩ := id F
     obtain ⟨q, v⟩ := h1 4 (by omega)
     have hix : ∀ w, (Instr.index 127 (.agg #[.bool true, .bool true, .bool false]) (.int .i64 1)).run Tryz.prog w = .ok (.bool true) w := fun w => by kernel_rfl
     clear h1
     go_upto_region 12 with fail
     replace F := F.put (a := 4) (by omega) (-1)
     replace hg := hg.setCell (p := ⟨gb, 4, none⟩) (Nat.le_refl _) (.int .i64 (-1))
     clear o0 o1 u1 q v hix
     generalize wr.setCell ⟨gb, 4, none⟩ (.int .i64 (-1)) = V at *
     obtain ⟨h1, ⟨o0, o1, u1⟩, -⟩ := id F
     obtain ⟨q, v⟩ := h1 4 (by omega)
     clear h1
     go_region_held3 (fun w' => w'.cell? ⟨gb + 1, 0, none⟩ = some (.slice (some ⟨gb, 0, none⟩) 2 2) ∧ w'.cell? ⟨gb + 1, 1, none⟩ = some (.int .i64 4)) (go_keep) (fail)
     go_wp2
     go_roundg (3 - 2)
     case measure => rw [HG2.out]; omega
     case rel => exact ⟨2, by omega, rfl, rfl, (((F.put (a := 4) (by omega) 4).num 5).below ((Below.refl _ _).drew)).congr (by decide), ((hg.setCell (p := ⟨gb, 4, none⟩) (Nat.le_refl _) (.int .i64 4)).setCell (p := ⟨gb + 1, 1, none⟩) n9 (.int .i64 5)).drew⟩
    ·replace F : UF wr gb tb (cS 5) 5 := F
     obtain ⟨h1, ⟨o0, o1, u1⟩, -⟩ := id F
     obtain ⟨q, v⟩ := h1 5 (by omega)
     have hix : ∀ w, (Instr.index 127 (.agg #[.bool true, .bool true, .bool false]) (.int .i64 2)).run Tryz.prog w = .ok (.bool false) w := fun w => by kernel_rfl
     clear h1
     go_wp2
     go_roundg (3 - 3)
     case measure => rw [HG2.out]; omega
     case rel => exact ⟨3, by omega, rfl, rfl, (F.put (a := 5) (by omega) (-1)).congr (by decide), hg.setCell (p := ⟨gb, 5, none⟩) (Nat.le_refl _) (.int .i64 (-1))⟩
    ·go_wp2
     go_roundg (2 - 2)
     case measure => rw [HG.out]; omega
     case rel => exact ⟨2, by omega, rfl, rfl, F, hg⟩
  ·replace F : UF wr gb tb (cS 6) 5 := F
   obtain ⟨h1, ⟨o0, o1, u1⟩, -⟩ := id F
   have X2 := X1.belowB (by omega : w.heap.size + 1 < gb) hg
   obtain ⟨r0, r1, u2, u3, _⟩ := id X2
   go_wp2
   have ng : gb ≠ w.heap.size + 1 := by omega
   have K : ∀ (o : Nat) (u : Value), wr.cell? ⟨gb, o, none⟩ = some u → ((wr.setCell ⟨w.heap.size + 1, 0, none⟩ (.slice (some ⟨gb, 0, none⟩) 2 2)).setCell ⟨w.heap.size + 1, 1, none⟩ (.int .i64 5)).cell? ⟨gb, o, none⟩ = some u := fun o u h => by simp [go_sem, h]
   refine bodyPost_ret (v := .agg #[.slice (some ⟨gb, 0, none⟩) 2 2, .int .i64 5]) (by simp [results, Tryz.results46, go_sem, r0, r1]) rfl ⟨gb, rfl, Or.inr ⟨gb, 0, rfl, fun k hk => ?_⟩, ?_⟩
   ·rcases (show k = 0 ∨ k = 1 by simp at hk; omega) with rfl | rfl
    ·exact ⟨K _ _ (h1 0 (by omega)).1, K _ _ (h1 1 (by omega)).1, K _ _ (h1 2 (by omega)).1⟩
    ·exact ⟨K _ _ (h1 3 (by omega)).1, K _ _ (h1 4 (by omega)).1, K _ _ (h1 5 (by omega)).1⟩
   ·exact ((hw.trans (hg.mono hg0)).setCell (p := ⟨w.heap.size + 1, 0, none⟩) (Nat.le_succ _) _).setCell (p := ⟨w.heap.size + 1, 1, none⟩) (Nat.le_succ _) _
end Go.Proofs.YtfipmopmpacdaaaGreatDoor
