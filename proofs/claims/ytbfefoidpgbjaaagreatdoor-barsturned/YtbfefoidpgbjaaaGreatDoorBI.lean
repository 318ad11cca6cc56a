/- The kit's SameSprings of springs that are alike. -/
import Derived.Test.YtbfefoidpgbjaaaGreatDoorBG
import Derived.Test.YtbfefoidpgbjaaaGreatDoorBK
import Derived.Test.YtbfefoidpgbjaaaGreatDoorZj
import Derived.Test.YtbfefoidpgbjaaaGreatDoorJC
namespace Go.Proofs.YtbfefoidpgbjaaaGreatDoor
open Go.RowKit
theorem aw19_cp (a b : Bool) : cpA [nA, nB] [nM a b] = (0, 0) := by cases a <;> cases b <;> kernel_rfl
theorem aw19_apt : aptA nA nB = (3, 4, 25) := by decide
theorem aw19_near : (axA (aR (l2F nA nB)) (l2F nA nB) 4611686018427387904 4617315517961601024).2 = 4590429028186199163 := by kernel_rfl
theorem aw19_unk : unkA [nA, nB] [nM false true] = (([(0, 1, 2), (3, 4, -1)], 5), 0) := by kernel_rfl
theorem aw19_sg : ∃ AX AC EN : Am, sgAll (fun _ => spK (nM false false) nA nB) 1 = [⟨0, 1, ⟨-3, -4, 0, 3, 4, 0⟩, AX⟩, ⟨0, 2, ⟨-8, 6, 25, 8, -6, 25⟩, AC⟩, ⟨0, 3, ⟨0, 0, 1, 0, 0, -1⟩, EN⟩] ∧ AX.2 = 4590429028186199163 := by
 refine ⟨axA (aR (l2F nA nB)) (l2F nA nB) 4611686018427387904 4617315517961601024, acA (aR (l2F nA nB)) (l2F nA nB) 4611686018427387904 4619567317775286272, enA (aR (l2F nA nB)) 4611686018427387904 4619567317775286272, ?_, aw19_near⟩
 have e : spK (nM false false) nA nB = [⟨0, 1, ⟨-3, -4, 0, 3, 4, 0⟩, axA (aR (l2F nA nB)) (l2F nA nB) 4611686018427387904 4617315517961601024⟩, ⟨0, 2, ⟨-8, 6, 25, 8, -6, 25⟩, acA (aR (l2F nA nB)) (l2F nA nB) 4611686018427387904 4619567317775286272⟩, ⟨0, 3, ⟨0, 0, 1, 0, 0, -1⟩, enA (aR (l2F nA nB)) 4611686018427387904 4619567317775286272⟩] := by
  rw [spK_is, aw19_apt]
  simp [spL, nM]
 simp only [sgAll, e]
 rfl
theorem jw_nA : JW nA := ⟨by decide, by decide, by decide, by decide, by decide, by decide⟩
theorem jw_nB : JW nB := ⟨by decide, by decide, by decide, by decide, by decide, by decide⟩
theorem jws_n : JWs [nA, nB] := jws_two jw_nA jw_nB
theorem mw_n (a b : Bool) : MW (nM a b) := by
 cases a <;> cases b <;> exact ⟨by decide, by decide, by decide, by decide, by decide, by decide, by decide, by decide, by decide⟩
theorem mws_n (a b : Bool) : MWs [nM a b] := fun m hm => by
 obtain rfl : m = nM a b := by simpa using hm
 exact mw_n a b
theorem aw19_springs (ao mo : Option Addr) (ac mc : Nat) (w : World) (hr : JRow w ao [nA, nB]) (mr : MRow w mo [nM false false]) (hT : TabW w) :
  Calls Tryz.prog 5 #[.agg #[.slice ao 2 ac, .slice mo 1 mc]] w (SgsGave w (sgAll (fun _ => spK (nM false false) nA nB) 1)) :=
 bsprings_any [nA, nB] [nM false false] ao mo ac mc w hr jws_n (by simp) mr (mws_n false false) (by simp) (aw19_cp false false) (fun _ => spK (nM false false) nA nB)
  (fun _ => by rw [spK_is]; simp [spL, nM])
  (fun k hk => by
   obtain rfl : k = 0 := by simp at hk; omega
   exact ⟨⟨by decide, by decide⟩, by decide, by decide⟩)
  (fun k hk W hW => by
   obtain rfl : k = 0 := by simp at hk; omega
   exact springs_any (nM false false) (mw_n false false) nA nB (by rw [aw19_apt]; decide) (by decide) (by decide) (fun _ => by decide) W hW) hT
theorem aw19_unknowns (ao mo : Option Addr) (ac mc : Nat) (w : World) (hr : JRow w ao [nA, nB]) (mr : MRow w mo [nM false true]) :
  Calls Tryz.prog 21 #[.agg #[.slice ao 2 ac, .slice mo 1 mc]] w (GavePl w (([(0, 1, 2), (3, 4, -1)], 5), 0)) := by
 have h := bunk_of [nA, nB] [nM false true] ao mo ac mc w hr jws_n (by simp) mr (mws_n false true) (by simp) fun _ w' hb => by
  refine (unknowns_n ao mo ac mc w' (hr.below hb) (mr.below hb)).mono ?_
  rintro e w'' ⟨g, rfl, p, b⟩
  exact ⟨g, rfl, p, b⟩
 rw [aw19_unk] at h
 exact h
set_option maxHeartbeats 2000000 in
theorem beam19_any (a b : Bool) (w : World) : Calls Tryz.prog 20 #[.bool a, .bool b] w fun e w' => e = .returned (.agg #[.string ⟨#[]⟩, .int .u8 2, .int .i64 0, .int .i64 0, .bool a, .bool b, .float .f64 0, .float .f64 0, .float .f64 4619567317775286272]) ∧ Below w.heap.size w w' := by
 have hst := run_storef Tryz.prog
 have hb0 : Below w.heap.size w (w.alloc (mO ⟨⟨#[]⟩, 2, 0, 0, a, b, 0, 0, 4619567317775286272⟩ 45)) := (Below.refl _ _).alloc (Nat.le_refl _) _
 simp only [mO] at hb0
 go_enter Tryz.func20, Tryz.ntmps20
 go_wp2
 exact bodyPost_ret (v := .agg #[.string ⟨#[]⟩, .int .u8 2, .int .i64 0, .int .i64 0, .bool a, .bool b, .float .f64 0, .float .f64 0, .float .f64 4619567317775286272]) (by simp [results, Tryz.results20, go_sem]) rfl ⟨rfl, hb0⟩
def ThreeT (w : World) (a b : Bool) (e : Ending) (w' : World) : Prop := ∃ g1 g2, e = .returned (.agg #[.slice (some ⟨g1, 0, none⟩) 2 2, .slice (some ⟨g2, 0, none⟩) 1 1]) ∧ JRow w' (some ⟨g1, 0, none⟩) [nA, nB] ∧ MRow w' (some ⟨g2, 0, none⟩) [nM a b] ∧ Below w.heap.size w w'
set_option maxHeartbeats 4000000 in
theorem three19_any (a b : Bool) (w : World) : Calls Tryz.prog 19 #[.agg #[.string ⟨#[]⟩, .int .u8 2, .int .i64 0, .int .i64 0, .bool a, .bool b, .float .f64 0, .float .f64 0, .float .f64 4619567317775286272]] w (ThreeT w a b) := by
 have hst := run_storef Tryz.prog
 go_enter Tryz.func19, Tryz.ntmps19
 go_wp2
 refine bodyPost_ret (v := .agg #[.slice (some ⟨w.heap.size + 1 + 1, 0, none⟩) 2 2, .slice (some ⟨w.heap.size + 1 + 1 + 1, 0, none⟩) 1 1]) (by simp [results, Tryz.results19, go_sem]) rfl ⟨w.heap.size + 1 + 1, w.heap.size + 1 + 1 + 1, rfl, ?_, ?_, ?_⟩
 ·refine Or.inr ⟨_, 0, rfl, fun k hk => ?_⟩
  rcases (show k = 0 ∨ k = 1 by simp at hk; omega) with rfl | rfl
  ·refine ⟨by simp [go_sem, nA], by simp [go_sem, nA], by simp [go_sem, nA], by simp [go_sem, nA]⟩
  ·refine ⟨by simp [go_sem, nB], by simp [go_sem, nB], by simp [go_sem, nB], by simp [go_sem, nB]⟩
 ·refine Or.inr ⟨_, 0, rfl, fun k hk => ?_⟩
  obtain rfl : k = 0 := by simp at hk; omega
  exact ⟨by simp [go_sem, nM], by simp [go_sem, nM], by simp [go_sem, nM], by simp [go_sem, nM], by simp [go_sem, nM], by simp [go_sem, nM], by simp [go_sem, nM], by simp [go_sem, nM], by simp [go_sem, nM]⟩
 ·exact ((((Below.refl _ _).alloc (Nat.le_refl _) _).alloc (by simp) _).alloc (by simp; omega) _).alloc (by simp; omega) _
theorem aw19_eq6 (w : World) : (binOp .eql 46 (.agg #[.int .i64 (-8), .int .i64 6, .int .i64 25, .int .i64 8, .int .i64 (-6), .int .i64 25]) (.agg #[.int .i64 (-8), .int .i64 6, .int .i64 25, .int .i64 8, .int .i64 (-6), .int .i64 25])).run Tryz.prog w = .ok (.bool true) w := by kernel_rfl
theorem aw19_eq3 (w : World) : (binOp .eql 69 (.agg #[.int .i64 3, .int .i64 4, .int .i64 (-1)]) (.agg #[.int .i64 3, .int .i64 4, .int .i64 (-1)])).run Tryz.prog w = .ok (.bool true) w := by kernel_rfl
set_option maxRecDepth 100000 in
set_option maxHeartbeats 8000000 in
theorem bawake_any (w : World) (hT : TabW w) : Calls Tryz.prog 9 #[] w fun e w' => e = .returned (.bool true) ∧ Below w.heap.size w w' := by
 have e6 := aw19_eq6
 have e3 := aw19_eq3
 obtain ⟨AX, AC, EN, hl, hax⟩ := aw19_sg
 have cS := aw19_springs
 rw [hl] at cS
 clear hl
 go_enter Tryz.func9, Tryz.ntmps9
 go_upto_region 2 with (first
  | (go_at_call 20; refine (beam19_any false false _).mono ?_; rintro e w1 ⟨rfl, b1⟩)
  | (go_at_call 19; refine (three19_any false false _).mono ?_; rintro e w2 ⟨g1, g2, rfl, r2, m2, b2⟩; have b12 := b1.trans (b2.mono b1.size); have T2 := tabW_below hT b12)
  | (go_at_call 5; refine (cS _ _ _ _ _ r2 m2 T2).mono ?_; rintro e w3 ⟨lo, lc, rfl, rs, b3⟩; have b13 := b12.trans (b3.mono b12.size)))
 have sr : ∃ b off, lo = some ⟨b, off, none⟩ ∧ SAt w3 b (off + 0 * 11) ⟨0, 1, ⟨-3, -4, 0, 3, 4, 0⟩, AX⟩ ∧ SAt w3 b (off + 1 * 11) ⟨0, 2, ⟨-8, 6, 25, 8, -6, 25⟩, AC⟩ := by
  rcases rs with h | ⟨b, off, e, hc⟩
  ·simp at h
  ·exact ⟨b, off, e, hc 0 (by simp), hc 1 (by simp)⟩
 obtain ⟨sb, so, rfl, s0, s1⟩ := sr
 clear rs r2 m2 T2 b12 b2 b3 b1 cS
 go_upto_region 3 with (first
  | (go_at_call 20; refine (beam19_any false true _).mono ?_; rintro e w4 ⟨rfl, b4⟩)
  | (go_at_call 19; refine (three19_any false true _).mono ?_; rintro e w5 ⟨g3, g4, rfl, r5, m5, b5⟩; have b45 := b4.trans (b5.mono b4.size))
  | (go_at_call 21; refine (aw19_unknowns _ _ _ _ _ r5 m5).mono ?_; rintro e w6 ⟨uo, uc, rfl, pr, b6⟩; have b46 := b45.trans (b6.mono b45.size)))
 have ur : ∃ b off, uo = some ⟨b, off, none⟩ ∧ w6.cell? ⟨b, off + 1 * 3, none⟩ = some (.int .i64 3) ∧ w6.cell? ⟨b, off + 1 * 3 + 1, none⟩ = some (.int .i64 4) ∧ w6.cell? ⟨b, off + 1 * 3 + 2, none⟩ = some (.int .i64 (-1)) := by
  rcases pr with h | ⟨b, off, e, hc⟩
  ·simp at h
  ·exact ⟨b, off, e, hc 1 (by simp)⟩
 obtain ⟨ub, uf, rfl, u0, u1, u2⟩ := ur
 have PB := PBox.new w6 (.slice (some ⟨ub, uf, none⟩) 2 uc) (.int .i64 5) 66
 have st : Below w6.heap.size w6 (w6.alloc (.cells #[.slice (some ⟨ub, uf, none⟩) 2 uc, .int .i64 5] 66)) := (Below.refl _ _).alloc (Nat.le_refl _) _
 have b3w := b46.trans (st.mono b46.size)
 have t0 := s0.below b3w
 have t1 := s1.below b3w
 have v0 := (st.cell (p := ⟨ub, uf + 1 * 3, none⟩) (World.block_lt_of_cell? _ _ u0)).trans u0
 have v1 := (st.cell (p := ⟨ub, uf + 1 * 3 + 1, none⟩) (World.block_lt_of_cell? _ _ u1)).trans u1
 have v2 := (st.cell (p := ⟨ub, uf + 1 * 3 + 2, none⟩) (World.block_lt_of_cell? _ _ u2)).trans u2
 have hbw := b13.trans (b3w.mono b13.size)
 have near := t0.c10
 obtain ⟨_, _, c2, c3, c4, c5, c6, c7, _, _, _⟩ := t1
 simp only at c2 c3 c4 c5 c6 c7 near
 rw [hax] at near
 simp only [Nat.one_mul, Nat.zero_mul, Nat.add_zero] at c2 c3 c4 c5 c6 c7 near v0 v1 v2
 clear pr r5 m5 b4 b5 b6 b45 b46 st b3w s0 s1 t0 u0 u1 u2 hax b13 hT
 generalize w6.alloc (.cells #[.slice (some ⟨ub, uf, none⟩) 2 uc, .int .i64 5] 66) = W at *
 generalize w6.heap.size = pb at *
 obtain ⟨p0, p1, _, _, _⟩ := PB
 have heq : FloatKind.f64.format.order 4590429028186199163 4590429028186199163 = some Ordering.eq := by kernel_rfl
 go_wp2
 go_ret
 exact ⟨rfl, hbw⟩
theorem kdK_one {m : Mb} (h : m.kd = 1) {j : Nat} (hj : j < (kdK m).length) : (kdK m).getD j 0 = 1 := by
 have e : kdK m = [1] := by unfold kdK; rw [if_pos (Or.inl h)]
 rw [e] at hj ⊢
 obtain rfl : j = 0 := by simp at hj; omega
 rfl
def AmW (a : Am) : Prop := a.1.1 < 18446744073709551616 ∧ a.1.2 < 18446744073709551616 ∧ a.2 < 18446744073709551616
theorem Amt.w {a : Am} {K : Nat × Nat} (h : Amt a K) : AmW a := ⟨h.rt.1, h.rt.2.1, h.fn.1⟩
theorem stK_w (m : Mb) (hm : MW m) (p q : Jn) (hl : (aptA p q).2.2 ≠ 0) (he : nbB m.e = true) (ha : nbB m.ar = true) (hi : m.kd ≠ 1 → nbB m.i = true) (k : Nat) (hk : m.kd = 1 → k = 1) : AmW (stK m (aR (l2F p q)) (l2F p q) k) := by
 obtain ⟨aS, aL, fS, lS⟩ := amt_len rfl p q hl
 have aE := amt_num hm.e he
 have aA := amt_num hm.ar ha
 generalize l2F p q = x at *
 generalize aR x = L at *
 unfold stK
 by_cases h : k = 1
 ·rw [if_pos h]
  exact (amt_div (amt_mul aE aA pos_k60 pos_k60 is_kP).1 (amt_mul aS aL pos_kSq pos_kLn is_kSL).1 pos_kP pos_kSL is_kAx).1.w
 ·have aI := amt_num hm.i (hi fun g => h (hk g))
  have hB := (amt_mul aE aI pos_k60 pos_k60 is_kP).1
  rw [if_neg h]
  split
  ·exact (amt_div hB aL pos_kP pos_kLn is_kEn).1.w
  ·exact (amt_div (amt_mul amt_three hB pos_k3 pos_kP is_kB3).1 (amt_mul (amt_mul aS aS pos_kSq pos_kSq is_kSS).1 aL pos_kSS pos_kLn is_kSSL).1 pos_kB3 pos_kSSL is_kAc).1.w
def SgsW (l : List Sg) : Prop := ∀ s, s ∈ l → AmW s.a
theorem SgsW.at {l : List Sg} (h : SgsW l) {k : Nat} (hk : k < l.length) : AmW (l.getD k sgz).a := by
 have e : l.getD k sgz = l[k] := by simp [List.getD, hk]
 rw [e]
 exact h _ (List.getElem_mem hk)
theorem sgAll_w {ls : Nat → List Sg} : ∀ n, (∀ k, k < n → SgsW (ls k)) → SgsW (sgAll ls n)
 | 0, _ => fun s hs => by cases hs
 | n + 1, h => fun s hs => by
  rw [sgAll, List.mem_append] at hs
  rcases hs with hs | hs
  ·exact sgAll_w n (fun k hk => h k (by omega)) s hs
  ·obtain ⟨t, ht, rfl⟩ := List.mem_map.1 hs
   exact h n (by omega) t ht
theorem sprA_w {js : List Jn} {ms : List Mb} (mw : MWs ms) : SgsW (sprA js ms).1 := by
 unfold sprA
 by_cases h0 : (cpA js ms).1 = 0
 ·rw [if_pos h0]
  obtain ⟨hc, _, f2, f3⟩ := cp_facts h0
  have hck := cp_ck h0
  refine sgAll_w _ fun k hk s hs => ?_
  obtain ⟨⟨a0, a1⟩, ⟨b0, b1⟩, hab, he, ha, hi⟩ := mm_facts (f3 k hk)
  unfold spM at hs
  rw [spK_kds] at hs
  obtain ⟨q, hq, rfl⟩ := List.mem_map.1 hs
  obtain ⟨j, hj, e⟩ := List.getElem_of_mem hq
  refine stK_w _ (mw.at hk) _ _ (apart_l2 hck (by omega) (by omega) (by omega)) he ha hi q fun h1 => ?_
  have := kdK_one h1 hj
  rw [← e]
  rwa [List.getD_eq_getElem?_getD, List.getElem?_eq_getElem hj, Option.getD_some] at this
 ·rw [if_neg h0]
  exact fun s hs => by cases hs
theorem sprA_len (js : List Jn) (ms : List Mb) : (sprA js ms).1.length ≤ 144 := by
 unfold sprA
 by_cases h0 : (cpA js ms).1 = 0
 ·rw [if_pos h0]
  obtain ⟨_, _, f2, _⟩ := cp_facts h0
  have := sgAll_le (spM js ms) (fun k => (spK_len _ _ _).2) ms.length
  simp only
  omega
 ·rw [if_neg h0]; simp
theorem Tryz.und6I : Tryz.prog.underlying 46 = some (.array 6 2) := by kernel_rfl
theorem Tryz.undI64 : Tryz.prog.underlying 2 = some (.int .i64) := by kernel_rfl
theorem eqin_six (a b c d e f : Int) (w : World) : (Op.equalIn 10000 46 (.agg #[.int .i64 a, .int .i64 b, .int .i64 c, .int .i64 d, .int .i64 e, .int .i64 f]) (.agg #[.int .i64 a, .int .i64 b, .int .i64 c, .int .i64 d, .int .i64 e, .int .i64 f])).run Tryz.prog w = .ok true w := by
 have h1 : ∀ x w, (Op.equalIn 9999 2 (.int .i64 x) (.int .i64 x)).run Tryz.prog w = .ok (x == x) w := fun x w => run_equalIn_int w 9998 2 .i64 .i64 x x Tryz.undI64
 have hs : ∀ w, (sizeOf 2).run Tryz.prog w = .ok 1 w := fun w => by kernel_rfl
 have hp0 : ∀ w (a b c d e f : Int), (part 2 #[.int .i64 a, .int .i64 b, .int .i64 c, .int .i64 d, .int .i64 e, .int .i64 f] 0).run Tryz.prog w = .ok (.int .i64 a) w := fun w a b c d e f => by kernel_rfl
 have hp1 : ∀ w (a b c d e f : Int), (part 2 #[.int .i64 a, .int .i64 b, .int .i64 c, .int .i64 d, .int .i64 e, .int .i64 f] 1).run Tryz.prog w = .ok (.int .i64 b) w := fun w a b c d e f => by kernel_rfl
 have hp2 : ∀ w (a b c d e f : Int), (part 2 #[.int .i64 a, .int .i64 b, .int .i64 c, .int .i64 d, .int .i64 e, .int .i64 f] 2).run Tryz.prog w = .ok (.int .i64 c) w := fun w a b c d e f => by kernel_rfl
 have hp3 : ∀ w (a b c d e f : Int), (part 2 #[.int .i64 a, .int .i64 b, .int .i64 c, .int .i64 d, .int .i64 e, .int .i64 f] 3).run Tryz.prog w = .ok (.int .i64 d) w := fun w a b c d e f => by kernel_rfl
 have hp4 : ∀ w (a b c d e f : Int), (part 2 #[.int .i64 a, .int .i64 b, .int .i64 c, .int .i64 d, .int .i64 e, .int .i64 f] 4).run Tryz.prog w = .ok (.int .i64 e) w := fun w a b c d e f => by kernel_rfl
 have hp5 : ∀ w (a b c d e f : Int), (part 2 #[.int .i64 a, .int .i64 b, .int .i64 c, .int .i64 d, .int .i64 e, .int .i64 f] 5).run Tryz.prog w = .ok (.int .i64 f) w := fun w a b c d e f => by kernel_rfl
 unfold Op.equalIn
 simp only [Sem.run_bind, run_underlying Tryz.und6I, Result.andThen_ok, hs]
 simp [List.range', hp0, hp1, hp2, hp3, hp4, hp5, h1]
theorem req6 (a b c d e f : Int) (w : World) : (binOp .eql 46 (.agg #[.int .i64 a, .int .i64 b, .int .i64 c, .int .i64 d, .int .i64 e, .int .i64 f]) (.agg #[.int .i64 a, .int .i64 b, .int .i64 c, .int .i64 d, .int .i64 e, .int .i64 f])).run Tryz.prog w = .ok (.bool true) w := by
 have h := eqin_six a b c d e f
 go_simp
 done
set_option maxRecDepth 100000 in
set_option maxHeartbeats 8000000 in
theorem samespring_any (s : Sg) (h : AmW s.a) (w : World) :
  Calls Tryz.prog 10 #[sgV s, sgV s] w fun e w' => e = .returned (.bool true) ∧ Below w.heap.size w w' := by
 obtain ⟨sm, sk, ⟨r0, r1, r2, r3, r4, r5⟩, ⟨⟨sl, sh⟩, sn⟩⟩ := s
 obtain ⟨h1, h2, h3⟩ := h
 simp only at h1 h2 h3
 have hq := req6 r0 r1 r2 r3 r4 r5
 unfold sgV
 simp only
 have S0 := (SBox.new w ⟨sm, sk, ⟨r0, r1, r2, r3, r4, r5⟩, ((sl, sh), sn)⟩ 50).below (below_al (sgO ⟨sm, sk, ⟨r0, r1, r2, r3, r4, r5⟩, ((sl, sh), sn)⟩ 50))
 have S1 := SBox.new (w.alloc (sgO ⟨sm, sk, ⟨r0, r1, r2, r3, r4, r5⟩, ((sl, sh), sn)⟩ 50)) ⟨sm, sk, ⟨r0, r1, r2, r3, r4, r5⟩, ((sl, sh), sn)⟩ 50
 have hb0 := (below_al (w := w) (sgO ⟨sm, sk, ⟨r0, r1, r2, r3, r4, r5⟩, ((sl, sh), sn)⟩ 50)).alloc (by simp) (sgO ⟨sm, sk, ⟨r0, r1, r2, r3, r4, r5⟩, ((sl, sh), sn)⟩ 50)
 have hs1 : (w.alloc (sgO ⟨sm, sk, ⟨r0, r1, r2, r3, r4, r5⟩, ((sl, sh), sn)⟩ 50)).heap.size = w.heap.size + 1 := by simp
 rw [hs1] at S1
 unfold sgO at *
 simp only at *
 go_enter Tryz.func10, Tryz.ntmps10
 go_upto_region 1 with fail
 have q1 : (sm == sm) = true := by simp
 have q2 : ((sk : Int) == (sk : Int)) = true := by simp
 clear hs1
 generalize (w.alloc (.cells #[.int .i64 sm, .int .u8 sk, .int .i64 r0, .int .i64 r1, .int .i64 r2, .int .i64 r3, .int .i64 r4, .int .i64 r5, .float .f64 sl, .float .f64 sh, .float .f64 sn] 50)).alloc (.cells #[.int .i64 sm, .int .u8 sk, .int .i64 r0, .int .i64 r1, .int .i64 r2, .int .i64 r3, .int .i64 r4, .int .i64 r5, .float .f64 sl, .float .f64 sh, .float .f64 sn] 50) = W0 at *
 obtain ⟨c0, c1, c2, c3, c4, c5, c6, c7, c8, c9, c10⟩ := S0.at0
 obtain ⟨d0, d1, d2, d3, d4, d5, d6, d7, d8, d9, d10⟩ := S1.at0
 simp only [Nat.zero_add] at c0 c1 c2 c3 c4 c5 c6 c7 c8 c9 c10 d0 d1 d2 d3 d4 d5 d6 d7 d8 d9 d10
 have l0 := S0.lt
 have l1 := S1.lt
 go_wp2_with (first
  | (go_at_call 22; refine (ssame_self sl sh h1 h2 _).mono ?_; rintro e v1 ⟨rfl, b1⟩; have k0 := (b1.cell (p := ⟨w.heap.size, 10, none⟩) l0).trans c10; have k1 := (b1.cell (p := ⟨w.heap.size + 1, 10, none⟩) l1).trans d10)
  | (go_at_call 23; refine (samef_self sn h3 _).mono ?_; rintro e v2 ⟨rfl, rfl⟩))
 go_ret
 exact ⟨rfl, hb0.trans (b1.mono hb0.size)⟩
set_option maxRecDepth 100000 in
set_option maxHeartbeats 8000000 in
theorem samesprings_any (l : List Sg) (hl : SgsW l) (ao bo : Option Addr) (ac bc : Nat) (w : World) (hT : TabW w) (hr : SgRow w ao l) (hs : SgRow w bo l) (hn : l.length ≤ 1125899906842624) :
  Calls Tryz.prog 8 #[.slice ao l.length ac, .slice bo l.length bc] w fun e w' => e = .returned (.bool true) ∧ Below w.heap.size w w' := by
 have HW : Hid (∀ k, k < l.length → AmW (l.getD k sgz).a) := (show ∀ k, _ → _ from fun k hk => hl.at hk)
 obtain ⟨N, hN⟩ : ∃ N, l.length = N := ⟨_, rfl⟩
 have HN : Hid (l.length = N) := hN
 rw [hN] at hn HW ⊢
 clear hN hl
 have c0 : ((N : Int) != (N : Int)) = false := by simp
 go_enter Tryz.func8, Tryz.ntmps8
 go_wp2
 go_loopg [5] N (fun gg i wr => ∃ k : Nat, k ≤ N ∧ gg = N - k ∧ i = .int .i64 k ∧ Below w.heap.size w wr)
 case atStart => exact ⟨0, by omega, rfl, rfl, Below.refl _ _⟩
 case round =>
  obtain ⟨k, hk, hg, rfl, hb⟩ := hrel
  have HG : Hid (gk = N - k) := hg
  clear hg
  have Tr := tabW_below hT hb
  by_cases hlt : k < N
  ·rcases hr.below hb with h | ⟨b, off, rfl, hc⟩
   ·exact absurd (HN.out ▸ h) (by omega)
   ·rcases hs.below hb with h | ⟨b', off', rfl, hd⟩
    ·exact absurd (HN.out ▸ h) (by omega)
    have gm := hc k (by rw [HN.out]; exact hlt)
    have dm := hd k (by rw [HN.out]; exact hlt)
    have ww := HW.out k hlt
    obtain ⟨s, hx⟩ : ∃ x, l.getD k sgz = x := ⟨_, rfl⟩
    rw [hx] at gm dm ww
    have cS := samespring_any s ww
    obtain ⟨sm, sk, ⟨r0, r1, r2, r3, r4, r5⟩, ⟨⟨sl, sh⟩, sn⟩⟩ := s
    unfold sgV at cS
    simp only at cS
    obtain ⟨g0, g1, g2, g3, g4, g5, g6, g7, g8, g9, g10⟩ := gm
    obtain ⟨d0, d1, d2, d3, d4, d5, d6, d7, d8, d9, d10⟩ := dm
    simp only at g0 g1 g2 g3 g4 g5 g6 g7 g8 g9 g10 d0 d1 d2 d3 d4 d5 d6 d7 d8 d9 d10
    have i1 : (k : Int) < (N : Int) := by omega
    clear hc hd hx hr hs HN HW ww
    go_wp2
    have hne : Nonempty (QOf wr) := QOf.any Tr
    have k0 : ∀ u : QOf wr, u.val.cell? ⟨b, off + k * 11, none⟩ = some (.int .i64 sm) := fun u => u.cell g0
    have k1 : ∀ u : QOf wr, u.val.cell? ⟨b, off + k * 11 + 1, none⟩ = some (.int .u8 sk) := fun u => u.cell g1
    have k2 : ∀ u : QOf wr, u.val.cell? ⟨b, off + k * 11 + 2, none⟩ = some (.int .i64 r0) := fun u => u.cell g2
    have k3 : ∀ u : QOf wr, u.val.cell? ⟨b, off + k * 11 + 3, none⟩ = some (.int .i64 r1) := fun u => u.cell g3
    have k4 : ∀ u : QOf wr, u.val.cell? ⟨b, off + k * 11 + 4, none⟩ = some (.int .i64 r2) := fun u => u.cell g4
    have k5 : ∀ u : QOf wr, u.val.cell? ⟨b, off + k * 11 + 5, none⟩ = some (.int .i64 r3) := fun u => u.cell g5
    have k6 : ∀ u : QOf wr, u.val.cell? ⟨b, off + k * 11 + 6, none⟩ = some (.int .i64 r4) := fun u => u.cell g6
    have k7 : ∀ u : QOf wr, u.val.cell? ⟨b, off + k * 11 + 7, none⟩ = some (.int .i64 r5) := fun u => u.cell g7
    have k8 : ∀ u : QOf wr, u.val.cell? ⟨b, off + k * 11 + 8, none⟩ = some (.float .f64 sl) := fun u => u.cell g8
    have k9 : ∀ u : QOf wr, u.val.cell? ⟨b, off + k * 11 + 9, none⟩ = some (.float .f64 sh) := fun u => u.cell g9
    have k10 : ∀ u : QOf wr, u.val.cell? ⟨b, off + k * 11 + 10, none⟩ = some (.float .f64 sn) := fun u => u.cell g10
    have l0 : ∀ u : QOf wr, u.val.cell? ⟨b', off' + k * 11, none⟩ = some (.int .i64 sm) := fun u => u.cell d0
    have l1 : ∀ u : QOf wr, u.val.cell? ⟨b', off' + k * 11 + 1, none⟩ = some (.int .u8 sk) := fun u => u.cell d1
    have l2 : ∀ u : QOf wr, u.val.cell? ⟨b', off' + k * 11 + 2, none⟩ = some (.int .i64 r0) := fun u => u.cell d2
    have l3 : ∀ u : QOf wr, u.val.cell? ⟨b', off' + k * 11 + 3, none⟩ = some (.int .i64 r1) := fun u => u.cell d3
    have l4 : ∀ u : QOf wr, u.val.cell? ⟨b', off' + k * 11 + 4, none⟩ = some (.int .i64 r2) := fun u => u.cell d4
    have l5 : ∀ u : QOf wr, u.val.cell? ⟨b', off' + k * 11 + 5, none⟩ = some (.int .i64 r3) := fun u => u.cell d5
    have l6 : ∀ u : QOf wr, u.val.cell? ⟨b', off' + k * 11 + 6, none⟩ = some (.int .i64 r4) := fun u => u.cell d6
    have l7 : ∀ u : QOf wr, u.val.cell? ⟨b', off' + k * 11 + 7, none⟩ = some (.int .i64 r5) := fun u => u.cell d7
    have l8 : ∀ u : QOf wr, u.val.cell? ⟨b', off' + k * 11 + 8, none⟩ = some (.float .f64 sl) := fun u => u.cell d8
    have l9 : ∀ u : QOf wr, u.val.cell? ⟨b', off' + k * 11 + 9, none⟩ = some (.float .f64 sh) := fun u => u.cell d9
    have l10 : ∀ u : QOf wr, u.val.cell? ⟨b', off' + k * 11 + 10, none⟩ = some (.float .f64 sn) := fun u => u.cell d10
    refine region_quietO (by kernel_rfl) (by kernel_rfl) Tr (fun O hO => ?_)
    repeat (quiet_step ((go_at_call 10; with_reducible exact quietB_of (cS _))))
    refine wpQuiet_nil ?_
    intro w' hw'
    obtain ⟨u, rfl⟩ := hw'
    have hb' := hb.trans (u.below.mono hb.size)
    go_wp2
    go_roundg (N - (k + 1))
    case measure => rw [HG.out]; omega
    case rel => exact ⟨k + 1, by omega, rfl, by go_num, hb'⟩
  ·have e : k = N := by omega
   subst e
   have i1 : ¬ (k : Int) < (k : Int) := by omega
   go_wp2
   go_ret
   exact ⟨rfl, hb⟩
end Go.Proofs.YtbfefoidpgbjaaaGreatDoor
