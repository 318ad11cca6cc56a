/- BarsTrue: the walk. (Written by mkbar47.py.) -/
import Derived.Test.YtfipmopmpacdaaaGreatDoorBN
import Derived.Test.YtfipmopmpacdaaaGreatDoorSkd
import Derived.Test.YtfipmopmpacdaaaGreatDoorTF
import Derived.Test.YtfipmopmpacdaaaGreatDoorBI
import Derived.Test.YtfipmopmpacdaaaGreatDoorBF
import Derived.Handy
namespace Go.Proofs.YtfipmopmpacdaaaGreatDoor
open Go.RowKit
theorem sk_l2 {js : List Jn} (hG : SkG 29 js) {a b : Nat} (ha : a < js.length) (hb : b < js.length) : (-64 ≤ (js.getD a jz).2.1 ∧ (js.getD a jz).2.1 ≤ 64 ∧ -64 ≤ (js.getD a jz).2.2.1 ∧ (js.getD a jz).2.2.1 ≤ 64) ∧ (-64 ≤ (js.getD b jz).2.1 ∧ (js.getD b jz).2.1 ≤ 64 ∧ -64 ≤ (js.getD b jz).2.2.1 ∧ (js.getD b jz).2.2.1 ≤ 64) := by
 obtain ⟨x, y, f, e, hx, hy, _⟩ := hG a ha
 obtain ⟨x', y', f', e', hx', hy', _⟩ := hG b hb
 rw [e, e']
 simp only
 omega
theorem apt_of {p q : Jn} (hp : -64 ≤ p.2.1 ∧ p.2.1 ≤ 64 ∧ -64 ≤ p.2.2.1 ∧ p.2.2.1 ≤ 64) (hq : -64 ≤ q.2.1 ∧ q.2.1 ≤ 64 ∧ -64 ≤ q.2.2.1 ∧ q.2.2.1 ≤ 64) : (aptA p q).2.2 = (q.2.1 - p.2.1) * (q.2.1 - p.2.1) + (q.2.2.1 - p.2.2.1) * (q.2.2.1 - p.2.2.1) := by
 unfold aptA
 rw [if_pos (by unfold aptB crB; simp; omega)]
theorem num_pos {x : Nat} (hx : x < 18446744073709551616) (h : nbB x = true) : finB x = true ∧ sgn x = false := by
 obtain ⟨f, a, b⟩ := nb_facts hx h
 have e1 : place 4336966441157787648 = 4336966441157787648 := by decide
 have e2 : place 4877398396442247168 = 4877398396442247168 := by decide
 have := pos_facts f (by omega) (by omega)
 exact ⟨this.1, this.2.2.1⟩
def U8R (l : Nat → Nat) (n : Nat) (a : World) (x : Value) : Prop := ∃ b, x = .slice (some ⟨b, 0, none⟩) n n ∧ (∀ q, q < n → a.cell? ⟨b, q, none⟩ = some (.int .u8 (l q : Nat))) ∧ b < a.heap.size
theorem U8R.below {l : Nat → Nat} {n : Nat} {a a' : World} {x : Value} (h : U8R l n a x) (hb : Below a.heap.size a a') : U8R l n a' x := by
 obtain ⟨b, e, c, t⟩ := h
 exact ⟨b, e, fun q hq => (hb.cell (p := ⟨b, q, none⟩) t).trans (c q hq), Nat.lt_of_lt_of_le t hb.size⟩
def U8P (v q : Nat) (a : World) (x : Value) : Prop := ∃ b, x = .pointer (some ⟨b, q, none⟩) ∧ a.cell? ⟨b, q, none⟩ = some (.int .u8 (v : Nat)) ∧ b < a.heap.size
theorem U8P.below {v q : Nat} {a a' : World} {x : Value} (h : U8P v q a x) (hb : Below a.heap.size a a') : U8P v q a' x := by
 obtain ⟨b, e, c, t⟩ := h
 exact ⟨b, e, (hb.cell (p := ⟨b, q, none⟩) t).trans c, Nat.lt_of_lt_of_le t hb.size⟩
def t4Q (q : Nat) : Nat := if q = 2 then 4 else if q = 3 then 2 else 0
def t3Q (n q : Nat) : Nat := if q = 0 then 1 else if q = 1 then t4Q n else 3
theorem u8_four (w : World) (t : TypeId) : ∀ q, q < 4 → (w.alloc (.cells #[.int .u8 0, .int .u8 0, .int .u8 4, .int .u8 2] t)).cell? ⟨w.heap.size, q, none⟩ = some (.int .u8 (t4Q q : Nat)) := by
 intro q hq
 rcases (show q = 0 ∨ q = 1 ∨ q = 2 ∨ q = 3 by omega) with rfl | rfl | rfl | rfl <;> simp [go_sem, t4Q]
theorem u8_three (w : World) (t : TypeId) (n : Nat) : ∀ q, q < 3 → (w.alloc (.cells #[.int .u8 1, .int .u8 (t4Q n : Nat), .int .u8 3] t)).cell? ⟨w.heap.size, q, none⟩ = some (.int .u8 (t3Q n q : Nat)) := by
 intro q hq
 rcases (show q = 0 ∨ q = 1 ∨ q = 2 by omega) with rfl | rfl | rfl <;> simp [go_sem, t3Q]
def nSp (m : Mb) : Nat := if m.kd = 1 ∨ (m.ha = true ∧ m.hb = true) then 1 else if m.ha = true ∨ m.hb = true then 2 else 3
def kSp (n k : Nat) : Nat := if k = 0 then 1 else if k = 1 then (if n = 2 then 4 else 2) else 3
theorem spK_n (m : Mb) (p q : Jn) : (spK m p q).length = nSp m := by
 unfold spK nSp
 obtain ⟨_, kd, _, _, ha, hb, _, _, _⟩ := m
 simp only
 by_cases h : kd = 1
 ·simp [h]
 ·cases ha <;> cases hb <;> simp [h]
theorem spK_k (m : Mb) (p q : Jn) : ∀ k, k < nSp m → ((spK m p q).getD k sgz).k = kSp (nSp m) k := by
 unfold spK nSp kSp
 obtain ⟨_, kd, _, _, ha, hb, _, _, _⟩ := m
 simp only
 by_cases h : kd = 1
 ·intro k hk
  obtain rfl : k = 0 := by simp [h] at hk; omega
  simp [h]
 ·intro k hk
  cases ha <;> cases hb <;> simp [h] at hk ⊢
  ·rcases (show k = 0 ∨ k = 1 ∨ k = 2 by omega) with rfl | rfl | rfl <;> simp
  ·rcases (show k = 0 ∨ k = 1 by omega) with rfl | rfl <;> simp
  ·rcases (show k = 0 ∨ k = 1 by omega) with rfl | rfl <;> simp
  ·obtain rfl : k = 0 := by omega
   simp
theorem kSp_q {n k : Nat} (hn : 1 ≤ n ∧ n ≤ 3) (hk : k < n) : kSp n k = t3Q n k := by
 unfold kSp t3Q t4Q
 rcases (show n = 1 ∨ n = 2 ∨ n = 3 by omega) with rfl | rfl | rfl
 ·obtain rfl : k = 0 := by omega
  rfl
 ·rcases (show k = 0 ∨ k = 1 by omega) with rfl | rfl <;> rfl
 ·rcases (show k = 0 ∨ k = 1 ∨ k = 2 by omega) with rfl | rfl | rfl <;> rfl
theorem nSp_bd (m : Mb) : 1 ≤ nSp m ∧ nSp m ≤ 3 := by unfold nSp; split <;> (try split) <;> omega
set_option maxRecDepth 100000 in
set_option maxHeartbeats 16000000 in
theorem btrue_law (n : Int) (A F M : List Int) (R : List Nat) (aa fa ma na : Option Addr) (ac fc mc nc : Nat) (w : World)
  (hA : IsRow w aa A) (hF : IsRow w fa F) (hM : IsRow w ma M) (hR : FsRow w na R) (wA : I64s A) (wF : I64s F) (wM : I64s M) (wR : F64s R)
  (lA : A.length ≤ 1125899906842624) (lF : F.length ≤ 1125899906842624) (lM : M.length ≤ 1125899906842624) (lR : R.length ≤ 1125899906842624) (hT : TabW w) :
  Calls Tryz.prog 3 #[.agg #[.int .i64 n, .slice aa A.length ac, .slice fa F.length fc, .slice ma M.length mc, .slice na R.length nc]] w fun e w' => e = .returned (.bool true) ∧ Below w.heap.size w w' := by
 have cPl := fun W (hb : Below w.heap.size w W) => plan_made n A F M R aa fa ma na ac fc mc nc W (hA.below hb) (hF.below hb) (hM.below hb) (hR.below hb) wA wF wM wR lA lF lM lR
 have cAw := fun W (hb : Below w.heap.size w W) => bawake_any W (tabW_below hT hb)
 have TW := fun W (hb : Below w.heap.size w W) => tabW_below hT hb
 generalize A.length = LA at *
 generalize F.length = LF at *
 generalize M.length = LM at *
 generalize R.length = LR at *
 clear hA hF hM hR wA wF wM wR lA lF lM lR hT
 have X0 := S5.new w (.int .i64 n) (.slice aa LA ac) (.slice fa LF fc) (.slice ma LM mc) (.slice na LR nc) 25
 have hb0 : Below w.heap.size w (w.alloc (.cells #[.int .i64 n, .slice aa LA ac, .slice fa LF fc, .slice ma LM mc, .slice na LR nc] 25)) := (Below.refl _ _).alloc (Nat.le_refl _) _
 go_enter Tryz.func3, Tryz.ntmps3
 go_upto_region 1 with fail
 generalize w.alloc (.cells #[.int .i64 n, .slice aa LA ac, .slice fa LF fc, .slice ma LM mc, .slice na LR nc] 25) = W0 at *
 obtain ⟨x0, x1, x2, x3, x4, xl⟩ := id X0
 go_upto_region 2 with (go_at_call 4; refine (cPl _ hb0).mono ?_; rintro e w1 ⟨js, ms, jo, mo, jc, mc', rfl, jr, mr, hJ, hjn, hM, hmn, hz, b1⟩)
 have hb1 := hb0.trans (b1.mono hb0.size)
 have hcp := sk_cp hJ hjn.2 hM hmn
 have hG := hJ.gen hjn.2
 have hjw := hG.jw (by omega)
 have hmw := hM.mw
 have hck := cp_ck (js := js) (ms := ms) (by rw [hcp])
 have hspr : sprA js ms = (sgAll (spM js ms) ms.length, 0) := by unfold sprA; rw [hcp, if_pos rfl]
 have cS := fun W (hb : Below w1.heap.size w1 W) => bspringsA_any js ms jo mo jc mc' W (jr.below hb) hjw (by omega) (mr.below hb) hmw (by omega) (TW W (hb1.trans (hb.mono hb1.size)))
 rw [hspr] at cS
 clear cPl hb0 b1 X0 x0 x1 x2 x3 x4 xl hspr hcp hjw
 have HA : Hid (∀ i k, i < ms.length → k < (spM js ms i).length → (sgAll (spM js ms) ms.length).getD ((sgAll (spM js ms) i).length + k) sgz = sgM (i : Int) ((spM js ms i).getD k sgz) ∧ (sgAll (spM js ms) i).length + k < (sgAll (spM js ms) ms.length).length) := fun i k => sgAll_at (spM js ms) ms.length i k
 have HS : Hid (∀ i, (sgAll (spM js ms) (i + 1)).length = (sgAll (spM js ms) i).length + (spM js ms i).length) := fun i => by simp [sgAll]
 obtain ⟨AA, hAA⟩ : ∃ f : Nat → Nat, (fun i => (sgAll (spM js ms) i).length) = f := ⟨_, rfl⟩
 have eA : ∀ i, (sgAll (spM js ms) i).length = AA i := fun i => congrFun hAA i
 have A0 : AA 0 = 0 := by rw [← eA]; rfl
 obtain ⟨J, hJl⟩ : ∃ J, js.length = J := ⟨_, rfl⟩
 obtain ⟨K, hKl⟩ : ∃ K, ms.length = K := ⟨_, rfl⟩
 have HJl : Hid (js.length = J) := hJl
 have HKl : Hid (ms.length = K) := hKl
 have AK := eA K
 simp only [eA] at HA HS
 obtain ⟨L, hL⟩ : ∃ L, sgAll (spM js ms) ms.length = L := ⟨_, rfl⟩
 rw [hL] at cS HA
 rw [← hKl, hL] at AK
 have NK : AA ms.length ≤ 18 := by rw [← eA]; exact Nat.le_trans (sgAll_le _ (fun k => (spK_len _ _ _).2) _) (by omega)
 rw [hKl] at AK NK HA
 have cS' : ∀ W, Below w1.heap.size w1 W → Calls Tryz.prog 5 #[.agg #[.slice jo J jc, .slice mo K mc']] W fun e w' => ∃ lo lc, e = .returned (.tuple #[.slice lo (AA K) lc, .int .i64 0]) ∧ SgRow w' lo L ∧ Below W.heap.size W w' := fun W hb => by
  have := cS W hb
  rw [hJl, hKl] at this
  refine this.mono fun e w' h => ?_
  obtain ⟨lo, lc, h1, h2, h3⟩ := h
  simp only [AK] at h1
  exact ⟨lo, lc, h1, h2, h3⟩
 have HL : Hid (L.length = AA K) := AK
 obtain ⟨aK, haK⟩ : ∃ t, AA K = t := ⟨_, rfl⟩
 have HaK : Hid (AA K = aK) := haK
 rw [hJl] at hjn hM ⊢
 rw [hKl] at hmn ⊢
 rw [haK] at HL NK HA cS'
 clear hL hJl hKl hAA eA cS AK hz haK
 have PB := PBox.new w1 (.slice jo J jc) (.slice mo K mc') 29
 have st := (Below.refl w1.heap.size w1).alloc (Nat.le_refl _) (.cells #[.slice jo J jc, .slice mo K mc'] 29)
 have jr1 := jr.below st
 have mr1 := mr.below st
 have hpl : w1.heap.size < (w1.alloc (.cells #[.slice jo J jc, .slice mo K mc'] 29)).heap.size := by simp
 generalize w1.alloc (.cells #[.slice jo J jc, .slice mo K mc'] 29) = W1 at *
 obtain ⟨o0, o1, _, _, ol⟩ := id PB
 go_upto_region 3 with (go_at_call 5; refine (cS' _ st).mono ?_; rintro e w2 ⟨lo, lc, rfl, rs, b2⟩)
 replace PB := PB.below b2
 replace jr := jr1.below b2
 replace mr := mr1.below b2
 have hb2 := hb1.trans ((st.trans (b2.mono st.size)).mono hb1.size)
 have hpl2 : w1.heap.size < w2.heap.size := Nat.lt_of_lt_of_le hpl b2.size
 generalize w1.heap.size = pb at *
 clear o0 o1 ol b2 hpl st jr1 mr1 cS' hb1
 go_upto_region 7 with fail
 go_loopg [6, 7] K (fun gh va vi wk => ∃ i : Nat, i ≤ K ∧ gh = K - i ∧ vi = .int .i64 i ∧ va = .int .i64 (AA i) ∧ Below w2.heap.size w2 wk)
 case atStart => exact ⟨0, by omega, rfl, rfl, by rw [A0]; rfl, Below.refl _ _⟩
 case round =>
  obtain ⟨i, hi, hgk, rfl, rfl, bi⟩ := hrel
  have HG : Hid (gk = K - i) := hgk
  clear hgk
  have PI := PB.below bi
  obtain ⟨o0, o1, _, _, ol⟩ := id PI
  have hbi := hb2.trans (bi.mono hb2.size)
  by_cases hlt : i < K
  ·have i1 : (i : Int) < (K : Int) := by omega
   have hiK : i < ms.length := by rw [HKl.out]; exact hlt
   rcases mr.below bi with hx | ⟨mbk, mof, rfl, hmc⟩
   ·exact absurd (HKl.out ▸ hx) (by omega)
   ·rcases jr.below bi with hx | ⟨jbk, jof, rfl, hjc⟩
    ·exact absurd (HJl.out ▸ hx) (by omega)
    ·have m0 := hmc i hiK
     obtain ⟨m, em, -, ha, hb, hab, he, har, hkd, hmwi⟩ := hM i hiK
     have hnS := spK_n m (js.getD m.a.toNat jz) (js.getD m.b.toNat jz)
     have hkS := spK_k m (js.getD m.a.toNat jz) (js.getD m.b.toNat jz)
     have eM : spM js ms i = spK m (js.getD m.a.toNat jz) (js.getD m.b.toNat jz) := by unfold spM; rw [em]
     have hA1 := HS.out i
     have hAt := fun k hk => HA.out i k hlt hk
     rw [eM, hnS] at hA1
     rw [eM, hnS] at hAt
     rw [em] at m0
     have bnS := nSp_bd m
     have hnz := apart_l2 hck (a := m.a.toNat) (b := m.b.toNat) (by omega) (by rw [HJl.out]; omega) (by rw [HJl.out]; omega)
     have hTr := spK_true (E := 1074) rfl m hmwi (js.getD m.a.toNat jz) (js.getD m.b.toNat jz) hnz he har (fun h => by rcases hkd with q | q; exact absurd q.1 h; exact q.2)
     have hbd := sk_l2 hG (a := m.a.toNat) (b := m.b.toNat) (by rw [HJl.out]; omega) (by rw [HJl.out]; omega)
     have hap := apt_of hbd.1 hbd.2
     have ja := (hjc m.a.toNat (by rw [HJl.out]; omega)).2
     have jb := (hjc m.b.toNat (by rw [HJl.out]; omega)).2
     have sE := num_pos hmwi.e he
     have sA := num_pos hmwi.ar har
     have sI : finB m.i = true ∧ sgn m.i = false := by
      rcases hkd with q | q
      ·rw [q.2.2.2]; exact ⟨by decide, by decide⟩
      ·exact num_pos hmwi.i q.2
     have cSp : ∀ s ∈ spK m (js.getD m.a.toNat jz) (js.getD m.b.toNat jz), ∃ OV UN EL EH LO HI g1 g2, SpC m (((aptA (js.getD m.a.toNat jz) (js.getD m.b.toNat jz)).2.2.natAbs : Nat) : Int) s.k s.a.1.1 s.a.1.2 s.a.2 OV UN EL EH LO HI g1 g2 := fun s hs => spring_true (E := 1074) rfl hmwi sE sA sI (by have := aptA_bd (js.getD m.a.toNat jz) (js.getD m.b.toNat jz); omega) (hTr s hs)
     rw [hap] at cSp
     obtain ⟨sp, hsp⟩ : ∃ l, spK m (js.getD m.a.toNat jz) (js.getD m.b.toNat jz) = l := ⟨_, rfl⟩
     rw [hsp] at hkS hAt cSp hnS
     clear hTr hnz hap hmc hjc em eM hsp
     obtain ⟨ea, hea⟩ : ∃ t : Nat, m.a = (t : Int) := ⟨m.a.toNat, by omega⟩
     obtain ⟨eb, heb⟩ : ∃ t : Nat, m.b = (t : Int) := ⟨m.b.toNat, by omega⟩
     rw [hea] at ja hbd cSp ha hab
     rw [heb] at jb hbd cSp hb hab
     simp only [Int.toNat_natCast] at ja jb hbd cSp
     generalize js.getD ea jz = p at *
     generalize js.getD eb jz = q at *
     obtain ⟨pn, px, py, pf⟩ := p
     obtain ⟨qn, qx, qy, qf⟩ := q
     simp only at ja jb hbd cSp
     have X8 := MBox.new wr m 38
     have s8 := (Below.refl wr.heap.size wr).alloc (Nat.le_refl _) (mO m 38)
     unfold mO at X8 s8
     obtain ⟨mnm, mkd, mma, mmb, mha, mhb, me, mar, mi⟩ := m
     simp only at *
     subst hea heb
     obtain ⟨c0, c1, c2, c3, c4, c5, c6, c7, c8⟩ := m0
     simp only at c0 c1 c2 c3 c4 c5 c6 c7 c8
     have hst := run_storef Tryz.prog
     go_upto_region 10 with fail
     generalize wr.alloc (.cells #[.string mnm, .int .u8 mkd, .int .i64 (ea : Int), .int .i64 (eb : Int), .bool mha, .bool mhb, .float .f64 me, .float .f64 mar, .float .f64 mi] 38) = W8 at *
     obtain ⟨dx, hdx⟩ : ∃ d, qx - px = d := ⟨_, rfl⟩
     obtain ⟨dy, hdy⟩ : ∃ d, qy - py = d := ⟨_, rfl⟩
     rw [hdx, hdy] at cSp
     have bx : -128 ≤ dx ∧ dx ≤ 128 := by omega
     have by' : -128 ≤ dy ∧ dy ≤ 128 := by omega
     have sx := sq_le (x := dx) (by omega)
     have sy := sq_le (x := dy) (by omega)
     rw [Int.natAbs_of_nonneg (by omega)] at cSp
     have hw1 : IntKind.i64.wrap (dx * dx) = dx * dx := by rw [IntKind.wrap_i64]; omega
     have hw2 : IntKind.i64.wrap (dy * dy) = dy * dy := by rw [IntKind.wrap_i64]; omega
     have hw3 : IntKind.i64.wrap (dx * dx + dy * dy) = dx * dx + dy * dy := by rw [IntKind.wrap_i64]; omega
     have wx0 : IntKind.i64.wrap px = px := by rw [IntKind.wrap_i64]; omega
     have wx1 : IntKind.i64.wrap qx = qx := by rw [IntKind.wrap_i64]; omega
     have wy0 : IntKind.i64.wrap py = py := by rw [IntKind.wrap_i64]; omega
     have wy1 : IntKind.i64.wrap qy = qy := by rw [IntKind.wrap_i64]; omega
     have wx2 : IntKind.i64.wrap dx = dx := by rw [IntKind.wrap_i64]; omega
     have wy2 : IntKind.i64.wrap dy = dy := by rw [IntKind.wrap_i64]; omega
     have PB8 := PI.below s8
     obtain ⟨d0, d1, _, _, dl⟩ := id PB8
     have jlt : jbk < W8.heap.size := Nat.lt_of_lt_of_le (World.block_lt_of_cell? _ _ ja.1) s8.size
     have ja1 := (s8.cell (p := ⟨jbk, jof + ea * 4 + 1, none⟩) (World.block_lt_of_cell? _ _ ja.1)).trans ja.1
     have ja2 := (s8.cell (p := ⟨jbk, jof + ea * 4 + 2, none⟩) (World.block_lt_of_cell? _ _ ja.2.1)).trans ja.2.1
     have jb1 := (s8.cell (p := ⟨jbk, jof + eb * 4 + 1, none⟩) (World.block_lt_of_cell? _ _ jb.1)).trans jb.1
     have jb2 := (s8.cell (p := ⟨jbk, jof + eb * 4 + 2, none⟩) (World.block_lt_of_cell? _ _ jb.2.1)).trans jb.2.1
     have ka := ha.2
     have kb := hb.2
     obtain ⟨B8, hB8⟩ : ∃ B, wr.heap.size = B := ⟨_, rfl⟩
     rw [hB8] at X8 ⊢
     have X8l := X8.lt
     obtain ⟨e0, e1, e2, e3, e4, e5, e6, e7, e8⟩ := X8.at0
     simp only [Nat.zero_add] at e0 e1 e2 e3 e4 e5 e6 e7 e8
     clear ja jb sx sy bx by' c0 c1 c2 c3 c4 c5 c6 c7 c8 o0 o1 ol PI sE sA sI he har hmwi ha hb hab
     go_cut [9] from 28 to 213 (fun sx wx => sx = .int .i64 dx ∧ Below W8.heap.size W8 wx)
     case first =>
      as_aux_lemma =>
      obtain ⟨FL, hFL⟩ : ∃ fz : Nat → Lz, fz = (fun j => match j with | 0 => .is (.pointer (some ⟨pb, 0, none⟩)) | 1 => .is (.slice (some ⟨jbk, jof, none⟩) J jc) | 2 => .is (.pointer (some ⟨B8, 3, none⟩)) | 3 => .is (.int .i64 (eb : Nat)) | 4 => .is (.pointer (some ⟨jbk, jof + eb * 4, none⟩)) | 5 => .is (.pointer (some ⟨jbk, jof + eb * 4 + 1, none⟩)) | 6 => .is (.int .i32 qx) | 7 => .is (.int .i64 qx) | 8 => .is (.pointer (some ⟨pb, 0, none⟩)) | 9 => .is (.slice (some ⟨jbk, jof, none⟩) J jc) | 10 => .is (.pointer (some ⟨B8, 2, none⟩)) | 11 => .is (.int .i64 (ea : Nat)) | 12 => .is (.pointer (some ⟨jbk, jof + ea * 4, none⟩)) | 13 => .is (.pointer (some ⟨jbk, jof + ea * 4 + 1, none⟩)) | 14 => .is (.int .i32 px) | 15 => .is (.int .i64 px) | 16 => .is (.int .i64 dx) | 17 => .is (.int .i64 dx) | _ => .tr) := ⟨_, rfl⟩
      have F0 := congrFun hFL 0
      have F1 := congrFun hFL 1
      have F2 := congrFun hFL 2
      have F3 := congrFun hFL 3
      have F4 := congrFun hFL 4
      have F5 := congrFun hFL 5
      have F6 := congrFun hFL 6
      have F7 := congrFun hFL 7
      have F8 := congrFun hFL 8
      have F9 := congrFun hFL 9
      have F10 := congrFun hFL 10
      have F11 := congrFun hFL 11
      have F12 := congrFun hFL 12
      have F13 := congrFun hFL 13
      have F14 := congrFun hFL 14
      have F15 := congrFun hFL 15
      have F16 := congrFun hFL 16
      have F17 := congrFun hFL 17
      simp only at F0 F1 F2 F3 F4 F5 F6 F7 F8 F9 F10 F11 F12 F13 F14 F15 F16 F17
      clear hFL
      refine region_rgY (by kernel_rfl) (fun vv => ⟨#[.agg #[.int .i64 n, .slice aa LA ac, .slice fa LF fc, .slice ma LM mc, .slice na LR nc], .pointer (some ⟨w.heap.size, 0, none⟩), u2, .pointer (some ⟨pb, 0, none⟩), .slice lo aK lc, .int .i64 0, .int .i64 ↑(AA i), .int .i64 ↑i, .pointer (some ⟨B8, 0, none⟩), vv 17, u10, u11, u12, u13, u14, u15, u16, u17, u18, .agg #[.int .i64 n, .slice aa LA ac, .slice fa LF fc, .slice ma LM mc, .slice na LR nc], .agg #[.slice (some ⟨jbk, jof, none⟩) J jc, .slice (some ⟨mbk, mof, none⟩) K mc'], .tuple #[.slice lo aK lc, .int .i64 0], .agg #[.slice (some ⟨jbk, jof, none⟩) J jc, .slice (some ⟨mbk, mof, none⟩) K mc'], .tuple #[.slice lo aK lc, .int .i64 0], .slice lo aK lc, .int .i64 0, .int .i64 0, .bool false, .int .i64 ↑i, .pointer (some ⟨pb, 1, none⟩), .slice (some ⟨mbk, mof, none⟩) K mc', .int .i64 ↑K, .bool true, u33, u34, .pointer (some ⟨pb, 1, none⟩), .slice (some ⟨mbk, mof, none⟩) K mc', .int .i64 ↑i, .pointer (some ⟨mbk, mof + i * 9, none⟩), .agg #[.string mnm, .int .u8 ↑mkd, .int .i64 ↑ea, .int .i64 ↑eb, .bool mha, .bool mhb, .float .f64 me, .float .f64 mar, .float .f64 mi], vv 0, vv 1, vv 2, vv 3, vv 4, vv 5, vv 6, vv 7, vv 8, vv 9, vv 10, vv 11, vv 12, vv 13, vv 14, vv 15, vv 16, u57, u58, u59, u60, u61, u62, u63, u64, u65, u66, u67, u68, u69, u70, u71, u72, u73, u74, u75, u76, u77, u78, u79, u80, u81, u82, u83, u84, u85, u86, u87, u88, u89, u90, u91, u92, u93, u94, u95, u96, u97, u98, u99, u100, u101, u102, u103, u104, u105, u106, u107, u108, u109, u110, u111, u112, u113, u114, u115, u116, u117, u118, u119, u120, u121, u122, u123, u124, u125, u126, u127, u128, u129, u130, u131, u132, u133, u134, u135, u136, u137, u138, u139, u140, u141, u142, u143, u144, u145, u146, u147, u148, u149, u150, u151, u152, u153, u154, u155, u156, u157, u158, u159, u160, u161, u162, u163, u164, u165, u166, u167, u168, u169, u170, u171, u172, u173, u174, u175, u176, u177, u178, u179, u180, u181, u182, u183, u184, u185, u186, u187, u188, u189, u190, u191, u192, u193, u194, u195, u196, u197, u198, u199, u200, u201, u202, u203, u204, u205, u206, u207, u208, u209, u210, u211, u212, u213, undef, undef, undef, undef, undef, undef, undef], []⟩) 1018 FL (fun _ _ => True) (fun j => match j with | 0 => u40 | 1 => u41 | 2 => u42 | 3 => u43 | 4 => u44 | 5 => u45 | 6 => u46 | 7 => u47 | 8 => u48 | 9 => u49 | 10 => u50 | 11 => u51 | 12 => u52 | 13 => u53 | 14 => u54 | 15 => u55 | 16 => u56 | 17 => u9 | _ => undef) rfl ?_ ?_
      ·intro Lq vv wq i hL hS hD hi
       obtain ⟨hr1, hr2, hr3⟩ := mem_ready hi
       have hr1 : i < 18 := hr1
       try dsimp only
       have hcs : i = 0 ∨ i = 1 ∨ i = 2 ∨ i = 3 ∨ i = 4 ∨ i = 5 ∨ i = 6 ∨ i = 7 ∨ i = 8 ∨ i = 9 ∨ i = 10 ∨ i = 11 ∨ i = 12 ∨ i = 13 ∨ i = 14 ∨ i = 15 ∨ i = 16 ∨ i = 17 := by omega
       clear hr1 hr2 hr3
       have hns := hS.open hL hi
       have hB := hS.a hns
       rcases hcs with rfl | rfl | rfl | rfl | rfl | rfl | rfl | rfl | rfl | rfl | rfl | rfl | rfl | rfl | rfl | rfl | rfl | rfl
       ·refine wpOpT_of (fun K hK => ?_)
        unfold wpOp
        go_simp
        refine Or.inl ?_
        exact hK _ _ ⟨putT vv 0 (.pointer (some ⟨pb, 0, none⟩)), (by simp [putT]), hS.step hL hi (by decide) (Below.refl _ _) (Lz.toIs F0)⟩
       ·have e0 := Lz.ofIs (hS.f hns 0 (ready_dep hi 0 (by kernel_rfl))) F0
        have rr0 := (hB.cell (p := ⟨pb, 0, none⟩) dl).trans d0
        refine wpOpT_of (fun K hK => ?_)
        unfold wpOp
        simp only [e0]
        go_simp
        refine Or.inl ?_
        exact hK _ _ ⟨putT vv 1 (.slice (some ⟨jbk, jof, none⟩) J jc), (by simp [putT, e0]), hS.step hL hi (by decide) (Below.refl _ _) (Lz.toIs F1)⟩
       ·refine wpOpT_of (fun K hK => ?_)
        unfold wpOp
        go_simp
        refine Or.inl ?_
        exact hK _ _ ⟨putT vv 2 (.pointer (some ⟨B8, 3, none⟩)), (by simp [putT]), hS.step hL hi (by decide) (Below.refl _ _) (Lz.toIs F2)⟩
       ·have e2 := Lz.ofIs (hS.f hns 2 (ready_dep hi 2 (by kernel_rfl))) F2
        have rr3 := (hB.cell (p := ⟨B8, 3, none⟩) X8l).trans e3
        refine wpOpT_of (fun K hK => ?_)
        unfold wpOp
        simp only [e2]
        go_simp
        refine Or.inl ?_
        exact hK _ _ ⟨putT vv 3 (.int .i64 (eb : Nat)), (by simp [putT, e2]), hS.step hL hi (by decide) (Below.refl _ _) (Lz.toIs F3)⟩
       ·have e1 := Lz.ofIs (hS.f hns 1 (ready_dep hi 1 (by kernel_rfl))) F1
        have e3 := Lz.ofIs (hS.f hns 3 (ready_dep hi 3 (by kernel_rfl))) F3
        refine wpOpT_of (fun K hK => ?_)
        unfold wpOp
        simp only [e1, e3]
        go_simp
        refine Or.inl ?_
        exact hK _ _ ⟨putT vv 4 (.pointer (some ⟨jbk, jof + eb * 4, none⟩)), (by simp [putT, e1, e3]), hS.step hL hi (by decide) (Below.refl _ _) (Lz.toIs F4)⟩
       ·have e4 := Lz.ofIs (hS.f hns 4 (ready_dep hi 4 (by kernel_rfl))) F4
        refine wpOpT_of (fun K hK => ?_)
        unfold wpOp
        simp only [e4]
        go_simp
        refine Or.inl ?_
        exact hK _ _ ⟨putT vv 5 (.pointer (some ⟨jbk, jof + eb * 4 + 1, none⟩)), (by simp [putT, e4]), hS.step hL hi (by decide) (Below.refl _ _) (Lz.toIs F5)⟩
       ·have e5 := Lz.ofIs (hS.f hns 5 (ready_dep hi 5 (by kernel_rfl))) F5
        have rj := (hB.cell (p := ⟨jbk, jof + eb * 4 + 1, none⟩) jlt).trans jb1
        refine wpOpT_of (fun K hK => ?_)
        unfold wpOp
        simp only [e5]
        go_simp
        refine Or.inl ?_
        exact hK _ _ ⟨putT vv 6 (.int .i32 qx), (by simp [putT, e5]), hS.step hL hi (by decide) (Below.refl _ _) (Lz.toIs F6)⟩
       ·have e6 := Lz.ofIs (hS.f hns 6 (ready_dep hi 6 (by kernel_rfl))) F6
        refine wpOpT_of (fun K hK => ?_)
        unfold wpOp
        simp only [e6]
        go_simp
        refine Or.inl ?_
        exact hK _ _ ⟨putT vv 7 (.int .i64 qx), (by simp [putT, e6]), hS.step hL hi (by decide) (Below.refl _ _) (Lz.toIs F7)⟩
       ·refine wpOpT_of (fun K hK => ?_)
        unfold wpOp
        go_simp
        refine Or.inl ?_
        exact hK _ _ ⟨putT vv 8 (.pointer (some ⟨pb, 0, none⟩)), (by simp [putT]), hS.step hL hi (by decide) (Below.refl _ _) (Lz.toIs F8)⟩
       ·have e8 := Lz.ofIs (hS.f hns 8 (ready_dep hi 8 (by kernel_rfl))) F8
        have rr0 := (hB.cell (p := ⟨pb, 0, none⟩) dl).trans d0
        refine wpOpT_of (fun K hK => ?_)
        unfold wpOp
        simp only [e8]
        go_simp
        refine Or.inl ?_
        exact hK _ _ ⟨putT vv 9 (.slice (some ⟨jbk, jof, none⟩) J jc), (by simp [putT, e8]), hS.step hL hi (by decide) (Below.refl _ _) (Lz.toIs F9)⟩
       ·refine wpOpT_of (fun K hK => ?_)
        unfold wpOp
        go_simp
        refine Or.inl ?_
        exact hK _ _ ⟨putT vv 10 (.pointer (some ⟨B8, 2, none⟩)), (by simp [putT]), hS.step hL hi (by decide) (Below.refl _ _) (Lz.toIs F10)⟩
       ·have e10 := Lz.ofIs (hS.f hns 10 (ready_dep hi 10 (by kernel_rfl))) F10
        have rr2 := (hB.cell (p := ⟨B8, 2, none⟩) X8l).trans e2
        refine wpOpT_of (fun K hK => ?_)
        unfold wpOp
        simp only [e10]
        go_simp
        refine Or.inl ?_
        exact hK _ _ ⟨putT vv 11 (.int .i64 (ea : Nat)), (by simp [putT, e10]), hS.step hL hi (by decide) (Below.refl _ _) (Lz.toIs F11)⟩
       ·have e9 := Lz.ofIs (hS.f hns 9 (ready_dep hi 9 (by kernel_rfl))) F9
        have e11 := Lz.ofIs (hS.f hns 11 (ready_dep hi 11 (by kernel_rfl))) F11
        refine wpOpT_of (fun K hK => ?_)
        unfold wpOp
        simp only [e9, e11]
        go_simp
        refine Or.inl ?_
        exact hK _ _ ⟨putT vv 12 (.pointer (some ⟨jbk, jof + ea * 4, none⟩)), (by simp [putT, e9, e11]), hS.step hL hi (by decide) (Below.refl _ _) (Lz.toIs F12)⟩
       ·have e12 := Lz.ofIs (hS.f hns 12 (ready_dep hi 12 (by kernel_rfl))) F12
        refine wpOpT_of (fun K hK => ?_)
        unfold wpOp
        simp only [e12]
        go_simp
        refine Or.inl ?_
        exact hK _ _ ⟨putT vv 13 (.pointer (some ⟨jbk, jof + ea * 4 + 1, none⟩)), (by simp [putT, e12]), hS.step hL hi (by decide) (Below.refl _ _) (Lz.toIs F13)⟩
       ·have e13 := Lz.ofIs (hS.f hns 13 (ready_dep hi 13 (by kernel_rfl))) F13
        have rj := (hB.cell (p := ⟨jbk, jof + ea * 4 + 1, none⟩) jlt).trans ja1
        refine wpOpT_of (fun K hK => ?_)
        unfold wpOp
        simp only [e13]
        go_simp
        refine Or.inl ?_
        exact hK _ _ ⟨putT vv 14 (.int .i32 px), (by simp [putT, e13]), hS.step hL hi (by decide) (Below.refl _ _) (Lz.toIs F14)⟩
       ·have e14 := Lz.ofIs (hS.f hns 14 (ready_dep hi 14 (by kernel_rfl))) F14
        refine wpOpT_of (fun K hK => ?_)
        unfold wpOp
        simp only [e14]
        go_simp
        refine Or.inl ?_
        exact hK _ _ ⟨putT vv 15 (.int .i64 px), (by simp [putT, e14]), hS.step hL hi (by decide) (Below.refl _ _) (Lz.toIs F15)⟩
       ·have e7 := Lz.ofIs (hS.f hns 7 (ready_dep hi 7 (by kernel_rfl))) F7
        have e15 := Lz.ofIs (hS.f hns 15 (ready_dep hi 15 (by kernel_rfl))) F15
        refine wpOpT_of (fun K hK => ?_)
        unfold wpOp
        simp only [e7, e15]
        go_simp
        refine Or.inl ?_
        exact hK _ _ ⟨putT vv 16 (.int .i64 dx), (by simp [putT, e7, e15]), hS.step hL hi (by decide) (Below.refl _ _) (Lz.toIs F16)⟩
       ·have e16 := Lz.ofIs (hS.f hns 16 (ready_dep hi 16 (by kernel_rfl))) F16
        refine wpOpT_of (fun K hK => ?_)
        unfold wpOp
        simp only [e16]
        go_simp
        refine Or.inl ?_
        exact hK _ _ ⟨putT vv 17 (.int .i64 dx), (by simp [putT, e16]), hS.step hL hi (by decide) (Below.refl _ _) (Lz.toIs F17)⟩
      ·intro Lq vv wq hL hS hr
       have on := all_done hL hr (by kernel_rfl)
       have hns : ¬ On Lq 1018 := onT_over (by rw [hL]; exact Nat.le_of_ble_eq_true (by kernel_rfl))
       have hB := hS.a hns
       have v9 := Lz.ofIs (hS.f hns 17 (on 17 (by decide))) F17
       try dsimp only
       rw [v9]
       go_wp2_with fail
       go_meet
       exact ⟨rfl, hB⟩
     obtain ⟨rfl, hB⟩ := hcut
     replace X8 := X8.below hB
     replace PB8 := PB8.below hB
     replace s8 := s8.trans (hB.mono s8.size)
     replace ja1 := (hB.cell (p := ⟨jbk, jof + ea * 4 + 1, none⟩) jlt).trans ja1
     replace ja2 := (hB.cell (p := ⟨jbk, jof + ea * 4 + 2, none⟩) jlt).trans ja2
     replace jb1 := (hB.cell (p := ⟨jbk, jof + eb * 4 + 1, none⟩) jlt).trans jb1
     replace jb2 := (hB.cell (p := ⟨jbk, jof + eb * 4 + 2, none⟩) jlt).trans jb2
     replace jlt := Nat.lt_of_lt_of_le jlt hB.size
     clear d0 d1 dl e0 e1 e2 e3 e4 e5 e6 e7 e8 X8l hB
     generalize wc = W9 at *
     have X8l := X8.lt
     obtain ⟨d0, d1, _, _, dl⟩ := id PB8
     obtain ⟨e0, e1, e2, e3, e4, e5, e6, e7, e8⟩ := X8.at0
     simp only [Nat.zero_add] at e0 e1 e2 e3 e4 e5 e6 e7 e8
     go_upto_region 11 with fail
     go_cut [10] from 28 to 213 (fun sx wx => sx = .int .i64 dy ∧ Below W9.heap.size W9 wx)
     case first =>
      as_aux_lemma =>
      obtain ⟨FL, hFL⟩ : ∃ fz : Nat → Lz, fz = (fun j => match j with | 0 => .is (.pointer (some ⟨pb, 0, none⟩)) | 1 => .is (.slice (some ⟨jbk, jof, none⟩) J jc) | 2 => .is (.pointer (some ⟨B8, 3, none⟩)) | 3 => .is (.int .i64 (eb : Nat)) | 4 => .is (.pointer (some ⟨jbk, jof + eb * 4, none⟩)) | 5 => .is (.pointer (some ⟨jbk, jof + eb * 4 + 2, none⟩)) | 6 => .is (.int .i32 qy) | 7 => .is (.int .i64 qy) | 8 => .is (.pointer (some ⟨pb, 0, none⟩)) | 9 => .is (.slice (some ⟨jbk, jof, none⟩) J jc) | 10 => .is (.pointer (some ⟨B8, 2, none⟩)) | 11 => .is (.int .i64 (ea : Nat)) | 12 => .is (.pointer (some ⟨jbk, jof + ea * 4, none⟩)) | 13 => .is (.pointer (some ⟨jbk, jof + ea * 4 + 2, none⟩)) | 14 => .is (.int .i32 py) | 15 => .is (.int .i64 py) | 16 => .is (.int .i64 dy) | 17 => .is (.int .i64 dy) | _ => .tr) := ⟨_, rfl⟩
      have F0 := congrFun hFL 0
      have F1 := congrFun hFL 1
      have F2 := congrFun hFL 2
      have F3 := congrFun hFL 3
      have F4 := congrFun hFL 4
      have F5 := congrFun hFL 5
      have F6 := congrFun hFL 6
      have F7 := congrFun hFL 7
      have F8 := congrFun hFL 8
      have F9 := congrFun hFL 9
      have F10 := congrFun hFL 10
      have F11 := congrFun hFL 11
      have F12 := congrFun hFL 12
      have F13 := congrFun hFL 13
      have F14 := congrFun hFL 14
      have F15 := congrFun hFL 15
      have F16 := congrFun hFL 16
      have F17 := congrFun hFL 17
      simp only at F0 F1 F2 F3 F4 F5 F6 F7 F8 F9 F10 F11 F12 F13 F14 F15 F16 F17
      clear hFL
      refine region_rgY (by kernel_rfl) (fun vv => ⟨#[.agg #[.int .i64 n, .slice aa LA ac, .slice fa LF fc, .slice ma LM mc, .slice na LR nc], .pointer (some ⟨w.heap.size, 0, none⟩), u2, .pointer (some ⟨pb, 0, none⟩), .slice lo aK lc, .int .i64 0, .int .i64 ↑(AA i), .int .i64 ↑i, .pointer (some ⟨B8, 0, none⟩), .int .i64 dx, vv 17, u11, u12, u13, u14, u15, u16, u17, u18, .agg #[.int .i64 n, .slice aa LA ac, .slice fa LF fc, .slice ma LM mc, .slice na LR nc], .agg #[.slice (some ⟨jbk, jof, none⟩) J jc, .slice (some ⟨mbk, mof, none⟩) K mc'], .tuple #[.slice lo aK lc, .int .i64 0], .agg #[.slice (some ⟨jbk, jof, none⟩) J jc, .slice (some ⟨mbk, mof, none⟩) K mc'], .tuple #[.slice lo aK lc, .int .i64 0], .slice lo aK lc, .int .i64 0, .int .i64 0, .bool false, u28, u29, u30, u31, u32, u33, u34, u35, u36, u37, u38, u39, u40, u41, u42, u43, u44, u45, u46, u47, u48, u49, u50, u51, u52, u53, u54, u55, u56, vv 0, vv 1, vv 2, vv 3, vv 4, vv 5, vv 6, vv 7, vv 8, vv 9, vv 10, vv 11, vv 12, vv 13, vv 14, vv 15, vv 16, u74, u75, u76, u77, u78, u79, u80, u81, u82, u83, u84, u85, u86, u87, u88, u89, u90, u91, u92, u93, u94, u95, u96, u97, u98, u99, u100, u101, u102, u103, u104, u105, u106, u107, u108, u109, u110, u111, u112, u113, u114, u115, u116, u117, u118, u119, u120, u121, u122, u123, u124, u125, u126, u127, u128, u129, u130, u131, u132, u133, u134, u135, u136, u137, u138, u139, u140, u141, u142, u143, u144, u145, u146, u147, u148, u149, u150, u151, u152, u153, u154, u155, u156, u157, u158, u159, u160, u161, u162, u163, u164, u165, u166, u167, u168, u169, u170, u171, u172, u173, u174, u175, u176, u177, u178, u179, u180, u181, u182, u183, u184, u185, u186, u187, u188, u189, u190, u191, u192, u193, u194, u195, u196, u197, u198, u199, u200, u201, u202, u203, u204, u205, u206, u207, u208, u209, u210, u211, u212, u213, undef, undef, undef, undef, undef, undef, undef], []⟩) 1018 FL (fun _ _ => True) (fun j => match j with | 0 => u57 | 1 => u58 | 2 => u59 | 3 => u60 | 4 => u61 | 5 => u62 | 6 => u63 | 7 => u64 | 8 => u65 | 9 => u66 | 10 => u67 | 11 => u68 | 12 => u69 | 13 => u70 | 14 => u71 | 15 => u72 | 16 => u73 | 17 => u10 | _ => undef) rfl ?_ ?_
      ·intro Lq vv wq i hL hS hD hi
       obtain ⟨hr1, hr2, hr3⟩ := mem_ready hi
       have hr1 : i < 18 := hr1
       try dsimp only
       have hcs : i = 0 ∨ i = 1 ∨ i = 2 ∨ i = 3 ∨ i = 4 ∨ i = 5 ∨ i = 6 ∨ i = 7 ∨ i = 8 ∨ i = 9 ∨ i = 10 ∨ i = 11 ∨ i = 12 ∨ i = 13 ∨ i = 14 ∨ i = 15 ∨ i = 16 ∨ i = 17 := by omega
       clear hr1 hr2 hr3
       have hns := hS.open hL hi
       have hB := hS.a hns
       rcases hcs with rfl | rfl | rfl | rfl | rfl | rfl | rfl | rfl | rfl | rfl | rfl | rfl | rfl | rfl | rfl | rfl | rfl | rfl
       ·refine wpOpT_of (fun K hK => ?_)
        unfold wpOp
        go_simp
        refine Or.inl ?_
        exact hK _ _ ⟨putT vv 0 (.pointer (some ⟨pb, 0, none⟩)), (by simp [putT]), hS.step hL hi (by decide) (Below.refl _ _) (Lz.toIs F0)⟩
       ·have e0 := Lz.ofIs (hS.f hns 0 (ready_dep hi 0 (by kernel_rfl))) F0
        have rr0 := (hB.cell (p := ⟨pb, 0, none⟩) dl).trans d0
        refine wpOpT_of (fun K hK => ?_)
        unfold wpOp
        simp only [e0]
        go_simp
        refine Or.inl ?_
        exact hK _ _ ⟨putT vv 1 (.slice (some ⟨jbk, jof, none⟩) J jc), (by simp [putT, e0]), hS.step hL hi (by decide) (Below.refl _ _) (Lz.toIs F1)⟩
       ·refine wpOpT_of (fun K hK => ?_)
        unfold wpOp
        go_simp
        refine Or.inl ?_
        exact hK _ _ ⟨putT vv 2 (.pointer (some ⟨B8, 3, none⟩)), (by simp [putT]), hS.step hL hi (by decide) (Below.refl _ _) (Lz.toIs F2)⟩
       ·have e2 := Lz.ofIs (hS.f hns 2 (ready_dep hi 2 (by kernel_rfl))) F2
        have rr3 := (hB.cell (p := ⟨B8, 3, none⟩) X8l).trans e3
        refine wpOpT_of (fun K hK => ?_)
        unfold wpOp
        simp only [e2]
        go_simp
        refine Or.inl ?_
        exact hK _ _ ⟨putT vv 3 (.int .i64 (eb : Nat)), (by simp [putT, e2]), hS.step hL hi (by decide) (Below.refl _ _) (Lz.toIs F3)⟩
       ·have e1 := Lz.ofIs (hS.f hns 1 (ready_dep hi 1 (by kernel_rfl))) F1
        have e3 := Lz.ofIs (hS.f hns 3 (ready_dep hi 3 (by kernel_rfl))) F3
        refine wpOpT_of (fun K hK => ?_)
        unfold wpOp
        simp only [e1, e3]
        go_simp
        refine Or.inl ?_
        exact hK _ _ ⟨putT vv 4 (.pointer (some ⟨jbk, jof + eb * 4, none⟩)), (by simp [putT, e1, e3]), hS.step hL hi (by decide) (Below.refl _ _) (Lz.toIs F4)⟩
       ·have e4 := Lz.ofIs (hS.f hns 4 (ready_dep hi 4 (by kernel_rfl))) F4
        refine wpOpT_of (fun K hK => ?_)
        unfold wpOp
        simp only [e4]
        go_simp
        refine Or.inl ?_
        exact hK _ _ ⟨putT vv 5 (.pointer (some ⟨jbk, jof + eb * 4 + 2, none⟩)), (by simp [putT, e4]), hS.step hL hi (by decide) (Below.refl _ _) (Lz.toIs F5)⟩
       ·have e5 := Lz.ofIs (hS.f hns 5 (ready_dep hi 5 (by kernel_rfl))) F5
        have rj := (hB.cell (p := ⟨jbk, jof + eb * 4 + 2, none⟩) jlt).trans jb2
        refine wpOpT_of (fun K hK => ?_)
        unfold wpOp
        simp only [e5]
        go_simp
        refine Or.inl ?_
        exact hK _ _ ⟨putT vv 6 (.int .i32 qy), (by simp [putT, e5]), hS.step hL hi (by decide) (Below.refl _ _) (Lz.toIs F6)⟩
       ·have e6 := Lz.ofIs (hS.f hns 6 (ready_dep hi 6 (by kernel_rfl))) F6
        refine wpOpT_of (fun K hK => ?_)
        unfold wpOp
        simp only [e6]
        go_simp
        refine Or.inl ?_
        exact hK _ _ ⟨putT vv 7 (.int .i64 qy), (by simp [putT, e6]), hS.step hL hi (by decide) (Below.refl _ _) (Lz.toIs F7)⟩
       ·refine wpOpT_of (fun K hK => ?_)
        unfold wpOp
        go_simp
        refine Or.inl ?_
        exact hK _ _ ⟨putT vv 8 (.pointer (some ⟨pb, 0, none⟩)), (by simp [putT]), hS.step hL hi (by decide) (Below.refl _ _) (Lz.toIs F8)⟩
       ·have e8 := Lz.ofIs (hS.f hns 8 (ready_dep hi 8 (by kernel_rfl))) F8
        have rr0 := (hB.cell (p := ⟨pb, 0, none⟩) dl).trans d0
        refine wpOpT_of (fun K hK => ?_)
        unfold wpOp
        simp only [e8]
        go_simp
        refine Or.inl ?_
        exact hK _ _ ⟨putT vv 9 (.slice (some ⟨jbk, jof, none⟩) J jc), (by simp [putT, e8]), hS.step hL hi (by decide) (Below.refl _ _) (Lz.toIs F9)⟩
       ·refine wpOpT_of (fun K hK => ?_)
        unfold wpOp
        go_simp
        refine Or.inl ?_
        exact hK _ _ ⟨putT vv 10 (.pointer (some ⟨B8, 2, none⟩)), (by simp [putT]), hS.step hL hi (by decide) (Below.refl _ _) (Lz.toIs F10)⟩
       ·have e10 := Lz.ofIs (hS.f hns 10 (ready_dep hi 10 (by kernel_rfl))) F10
        have rr2 := (hB.cell (p := ⟨B8, 2, none⟩) X8l).trans e2
        refine wpOpT_of (fun K hK => ?_)
        unfold wpOp
        simp only [e10]
        go_simp
        refine Or.inl ?_
        exact hK _ _ ⟨putT vv 11 (.int .i64 (ea : Nat)), (by simp [putT, e10]), hS.step hL hi (by decide) (Below.refl _ _) (Lz.toIs F11)⟩
       ·have e9 := Lz.ofIs (hS.f hns 9 (ready_dep hi 9 (by kernel_rfl))) F9
        have e11 := Lz.ofIs (hS.f hns 11 (ready_dep hi 11 (by kernel_rfl))) F11
        refine wpOpT_of (fun K hK => ?_)
        unfold wpOp
        simp only [e9, e11]
        go_simp
        refine Or.inl ?_
        exact hK _ _ ⟨putT vv 12 (.pointer (some ⟨jbk, jof + ea * 4, none⟩)), (by simp [putT, e9, e11]), hS.step hL hi (by decide) (Below.refl _ _) (Lz.toIs F12)⟩
       ·have e12 := Lz.ofIs (hS.f hns 12 (ready_dep hi 12 (by kernel_rfl))) F12
        refine wpOpT_of (fun K hK => ?_)
        unfold wpOp
        simp only [e12]
        go_simp
        refine Or.inl ?_
        exact hK _ _ ⟨putT vv 13 (.pointer (some ⟨jbk, jof + ea * 4 + 2, none⟩)), (by simp [putT, e12]), hS.step hL hi (by decide) (Below.refl _ _) (Lz.toIs F13)⟩
       ·have e13 := Lz.ofIs (hS.f hns 13 (ready_dep hi 13 (by kernel_rfl))) F13
        have rj := (hB.cell (p := ⟨jbk, jof + ea * 4 + 2, none⟩) jlt).trans ja2
        refine wpOpT_of (fun K hK => ?_)
        unfold wpOp
        simp only [e13]
        go_simp
        refine Or.inl ?_
        exact hK _ _ ⟨putT vv 14 (.int .i32 py), (by simp [putT, e13]), hS.step hL hi (by decide) (Below.refl _ _) (Lz.toIs F14)⟩
       ·have e14 := Lz.ofIs (hS.f hns 14 (ready_dep hi 14 (by kernel_rfl))) F14
        refine wpOpT_of (fun K hK => ?_)
        unfold wpOp
        simp only [e14]
        go_simp
        refine Or.inl ?_
        exact hK _ _ ⟨putT vv 15 (.int .i64 py), (by simp [putT, e14]), hS.step hL hi (by decide) (Below.refl _ _) (Lz.toIs F15)⟩
       ·have e7 := Lz.ofIs (hS.f hns 7 (ready_dep hi 7 (by kernel_rfl))) F7
        have e15 := Lz.ofIs (hS.f hns 15 (ready_dep hi 15 (by kernel_rfl))) F15
        refine wpOpT_of (fun K hK => ?_)
        unfold wpOp
        simp only [e7, e15]
        go_simp
        refine Or.inl ?_
        exact hK _ _ ⟨putT vv 16 (.int .i64 dy), (by simp [putT, e7, e15]), hS.step hL hi (by decide) (Below.refl _ _) (Lz.toIs F16)⟩
       ·have e16 := Lz.ofIs (hS.f hns 16 (ready_dep hi 16 (by kernel_rfl))) F16
        refine wpOpT_of (fun K hK => ?_)
        unfold wpOp
        simp only [e16]
        go_simp
        refine Or.inl ?_
        exact hK _ _ ⟨putT vv 17 (.int .i64 dy), (by simp [putT, e16]), hS.step hL hi (by decide) (Below.refl _ _) (Lz.toIs F17)⟩
      ·intro Lq vv wq hL hS hr
       have on := all_done hL hr (by kernel_rfl)
       have hns : ¬ On Lq 1018 := onT_over (by rw [hL]; exact Nat.le_of_ble_eq_true (by kernel_rfl))
       have hB := hS.a hns
       have v9 := Lz.ofIs (hS.f hns 17 (on 17 (by decide))) F17
       try dsimp only
       rw [v9]
       go_wp2_with fail
       go_meet
       exact ⟨rfl, hB⟩
     obtain ⟨rfl, hB⟩ := hcut
     replace X8 := X8.below hB
     replace PB8 := PB8.below hB
     replace s8 := s8.trans (hB.mono s8.size)
     replace ja1 := (hB.cell (p := ⟨jbk, jof + ea * 4 + 1, none⟩) jlt).trans ja1
     replace ja2 := (hB.cell (p := ⟨jbk, jof + ea * 4 + 2, none⟩) jlt).trans ja2
     replace jb1 := (hB.cell (p := ⟨jbk, jof + eb * 4 + 1, none⟩) jlt).trans jb1
     replace jb2 := (hB.cell (p := ⟨jbk, jof + eb * 4 + 2, none⟩) jlt).trans jb2
     replace jlt := Nat.lt_of_lt_of_le jlt hB.size
     clear d0 d1 dl e0 e1 e2 e3 e4 e5 e6 e7 e8 X8l hB
     generalize wc = V9 at *
     have X8l := X8.lt
     obtain ⟨d0, d1, _, _, dl⟩ := id PB8
     obtain ⟨e0, e1, e2, e3, e4, e5, e6, e7, e8⟩ := X8.at0
     simp only [Nat.zero_add] at e0 e1 e2 e3 e4 e5 e6 e7 e8
     go_upto_region 14 with fail
     generalize dx * dx + dy * dy = l2 at *
     clear ja1 ja2 jb1 jb2 jlt d0 d1 dl hw1 hw2 hw3 wx0 wx1 wy0 wy1 wx2 wy2 hdx hdy hbd ka kb
     obtain ⟨b3, hb3⟩ : ∃ b, (decide (mkd = 2) && !mha && !mhb) = b := ⟨_, rfl⟩
     go_cut [93] from 28 to 213 (fun s93 wx => s93 = .bool b3 ∧ wx = V9)
     case first =>
      as_aux_lemma =>
      rcases hkd with ⟨rfl, rfl, rfl, rfl⟩ | ⟨rfl, _⟩
      ·obtain rfl : b3 = false := by rw [← hb3]; rfl
       go_wp2
       go_meet
       exact ⟨rfl, rfl⟩
      ·cases mha <;> cases mhb
       ·obtain rfl : b3 = true := by rw [← hb3]; rfl
        go_wp2
        go_meet
        exact ⟨rfl, rfl⟩
       all_goals
        obtain rfl : b3 = false := by rw [← hb3]; rfl
        go_wp2
        go_meet
        exact ⟨rfl, rfl⟩
     obtain ⟨rfl, rfl⟩ := hcut
     go_upto_if 93 with fail
     go_cut [12] from 28 to 213 (fun s12 wx => s12 = .int .i64 ((nSp ⟨mnm, mkd, (ea : Nat), (eb : Nat), mha, mhb, me, mar, mi⟩ : Nat) : Int) ∧ wx = wc)
     case first =>
      as_aux_lemma =>
      rcases hkd with ⟨rfl, rfl, rfl, rfl⟩ | ⟨rfl, _⟩
      ·obtain rfl : b3 = false := by rw [← hb3]; rfl
       go_wp2
       go_meet
       exact ⟨rfl, rfl⟩
      ·cases mha <;> cases mhb
       ·obtain rfl : b3 = true := by rw [← hb3]; rfl
        go_wp2
        go_meet
        exact ⟨rfl, rfl⟩
       all_goals
        obtain rfl : b3 = false := by rw [← hb3]; rfl
        go_wp2
        go_meet
        exact ⟨rfl, rfl⟩
     obtain ⟨rfl, rfl⟩ := hcut
     obtain ⟨nn, hnn⟩ : ∃ t, nSp ⟨mnm, mkd, (ea : Nat), (eb : Nat), mha, mhb, me, mar, mi⟩ = t := ⟨_, rfl⟩
     rw [hnn] at hkS hAt hnS hA1 bnS ⊢
     have HA1 : Hid (AA (i + 1) = AA i + nn) := hA1
     have lA := (hAt (nn - 1) (by omega)).2
     have b2c := bi.trans (s8.mono bi.size)
     generalize wc = WC at *
     clear hb3 hkd hnn hA1 s8 bi
     go_upto_region 19 with fail
     go_loopg [6, 13] nn (fun gh va vk wk => ∃ k t : Nat, k ≤ nn ∧ gh = nn - k ∧ vk = .int .i64 k ∧ t = AA i + k ∧ va = .int .i64 t ∧ Below WC.heap.size WC wk)
     case atStart => exact ⟨0, AA i, by omega, rfl, rfl, by omega, rfl, Below.refl _ _⟩
     case round =>
      obtain ⟨k, t, hk, hgk2, rfl, ht, rfl, bk⟩ := hrel
      have HG2 : Hid (gk = nn - k) := hgk2
      have HTt : Hid (t = AA i + k) := ht
      clear hgk2 ht
      by_cases hlt2 : k < nn
      ·obtain ⟨h1, h2⟩ := hAt k hlt2
       rw [← HTt.out] at h1 h2
       have kk := hkS k hlt2
       rw [kSp_q bnS hlt2] at kk
       obtain ⟨OV, UN, EL, EH, LO, HI, g1, g2, C⟩ := cSp _ (sgetD_mem (l := sp) (k := k) (by omega))
       rcases rs.below (b2c.trans (bk.mono b2c.size)) with hx | ⟨lb, lof, rfl, hlc⟩
       ·exact absurd (hx.symm.trans HL.out) (by omega)
       ·have z := hlc t (by rw [HL.out]; exact h2)
        rw [h1] at z
        clear hlc h1 cSp hkS hAt
        generalize sp.getD k sgz = s at *
        obtain ⟨sm, sk, ⟨r0, r1, r2, r3, r4, r5⟩, ⟨⟨sl, sh⟩, sn⟩⟩ := s
        simp only at C kk
        subst kk
        obtain ⟨z0, z1, z2, z3, z4, z5, z6, z7, z8, z9, z10⟩ := z
        simp only [sgM] at z0 z1 z2 z3 z4 z5 z6 z7 z8 z9 z10
        have llt : lb < wr.heap.size := World.block_lt_of_cell? _ _ z0
        have q3 : ¬ (aK : Int) ≤ ((t : Nat) : Int) := by omega
        have q4 : ((t : Nat) : Int) < (aK : Int) := by omega
        have k3 : (k : Int) < 3 := by omega
        have k4 : (k : Int) < (nn : Int) := by omega
        have n4 : (nn : Int) < 4 := by omega
        have X8k := X8.below bk
        go_upto_region 21 with fail
        go_cut [140] from 107 to 213 (fun sx wx => sx = .bool false ∧ Below wr.heap.size wr wx)
        case first =>
         as_aux_lemma =>
         obtain ⟨FL, hFL⟩ : ∃ fz : Nat → Lz, fz = (fun j => match j with | 0 => .is (.int .i64 ((t : Nat) : Int)) | 1 => .is (.slice (some ⟨lb, lof, none⟩) aK lc) | 2 => .is (.int .i64 ((aK : Nat) : Int)) | 3 => .is (.bool false) | 4 => .is (.bool false) | 5 => .is (.slice (some ⟨lb, lof, none⟩) aK lc) | 6 => .is (.int .i64 ((t : Nat) : Int)) | 7 => .is (.pointer (some ⟨lb, lof + t * 11, none⟩)) | 8 => .is (.pointer (some ⟨lb, lof + t * 11, none⟩)) | 9 => .is (.int .i64 i) | 10 => .is (.int .i64 i) | 11 => .is (.bool false) | 12 => .is (.bool false) | 13 => .is (.bool false) | 14 => .is (.slice (some ⟨lb, lof, none⟩) aK lc) | 15 => .is (.int .i64 ((t : Nat) : Int)) | 16 => .is (.pointer (some ⟨lb, lof + t * 11, none⟩)) | 17 => .is (.pointer (some ⟨lb, lof + t * 11 + 1, none⟩)) | 18 => .is (.int .u8 (t3Q nn k : Nat)) | 19 => .gn (U8R t4Q 4) (fun _ _ _ h hb => h.below hb) | 20 => .is (.int .i64 nn) | 21 => .gn (U8P (t4Q nn) nn) (fun _ _ _ h hb => h.below hb) | 22 => .is (.int .u8 (t4Q nn : Nat)) | 23 => .gn (U8R (t3Q nn) 3) (fun _ _ _ h hb => h.below hb) | 24 => .is (.int .i64 k) | 25 => .gn (U8P (t3Q nn k) k) (fun _ _ _ h hb => h.below hb) | 26 => .is (.int .u8 (t3Q nn k : Nat)) | 27 => .is (.bool false) | 28 => .is (.bool false) | _ => .tr) := ⟨_, rfl⟩
         have F0 := congrFun hFL 0
         have F1 := congrFun hFL 1
         have F2 := congrFun hFL 2
         have F3 := congrFun hFL 3
         have F4 := congrFun hFL 4
         have F5 := congrFun hFL 5
         have F6 := congrFun hFL 6
         have F7 := congrFun hFL 7
         have F8 := congrFun hFL 8
         have F9 := congrFun hFL 9
         have F10 := congrFun hFL 10
         have F11 := congrFun hFL 11
         have F12 := congrFun hFL 12
         have F13 := congrFun hFL 13
         have F14 := congrFun hFL 14
         have F15 := congrFun hFL 15
         have F16 := congrFun hFL 16
         have F17 := congrFun hFL 17
         have F18 := congrFun hFL 18
         have F19 := congrFun hFL 19
         have F20 := congrFun hFL 20
         have F21 := congrFun hFL 21
         have F22 := congrFun hFL 22
         have F23 := congrFun hFL 23
         have F24 := congrFun hFL 24
         have F25 := congrFun hFL 25
         have F26 := congrFun hFL 26
         have F27 := congrFun hFL 27
         have F28 := congrFun hFL 28
         simp only at F0 F1 F2 F3 F4 F5 F6 F7 F8 F9 F10 F11 F12 F13 F14 F15 F16 F17 F18 F19 F20 F21 F22 F23 F24 F25 F26 F27 F28
         clear hFL
         refine region_rgY (by kernel_rfl) (fun vv => ⟨#[.agg #[.int .i64 n, .slice aa LA ac, .slice fa LF fc, .slice ma LM mc, .slice na LR nc], .pointer (some ⟨w.heap.size, 0, none⟩), u2, .pointer (some ⟨pb, 0, none⟩), .slice (some ⟨lb, lof, none⟩) aK lc, .int .i64 0, .int .i64 ↑t, .int .i64 ↑i, .pointer (some ⟨B8, 0, none⟩), .int .i64 dx, .int .i64 dy, .int .i64 l2, .int .i64 ↑nn, .int .i64 ↑k, u14, u15, u16, u17, u18, .agg #[.int .i64 n, .slice aa LA ac, .slice fa LF fc, .slice ma LM mc, .slice na LR nc], .agg #[.slice (some ⟨jbk, jof, none⟩) J jc, .slice (some ⟨mbk, mof, none⟩) K mc'], .tuple #[.slice (some ⟨lb, lof, none⟩) aK lc, .int .i64 0], .agg #[.slice (some ⟨jbk, jof, none⟩) J jc, .slice (some ⟨mbk, mof, none⟩) K mc'], .tuple #[.slice (some ⟨lb, lof, none⟩) aK lc, .int .i64 0], .slice (some ⟨lb, lof, none⟩) aK lc, .int .i64 0, .int .i64 0, .bool false, u28, u29, u30, u31, u32, u33, u34, u35, u36, u37, u38, u39, u40, u41, u42, u43, u44, u45, u46, u47, u48, u49, u50, u51, u52, u53, u54, u55, u56, u57, u58, u59, u60, u61, u62, u63, u64, u65, u66, u67, u68, u69, u70, u71, u72, u73, u74, u75, u76, u77, u78, u79, u80, u81, u82, u83, u84, u85, u86, u87, u88, u89, u90, u91, u92, u93, u94, u95, u96, u97, u98, u99, u100, u101, u102, u103, u104, u105, u106, .int .i64 ↑k, .int .i64 ↑nn, .bool true, u110, u111, vv 0, vv 1, vv 2, vv 3, vv 4, vv 5, vv 6, vv 7, vv 8, vv 9, vv 10, vv 11, vv 12, vv 13, vv 14, vv 15, vv 16, vv 17, vv 18, vv 19, vv 20, vv 21, vv 22, vv 23, vv 24, vv 25, vv 26, vv 27, vv 28, u141, u142, u143, u144, u145, u146, u147, u148, u149, u150, u151, u152, u153, u154, u155, u156, u157, u158, u159, u160, u161, u162, u163, u164, u165, u166, u167, u168, u169, u170, u171, u172, u173, u174, u175, u176, u177, u178, u179, u180, u181, u182, u183, u184, u185, u186, u187, u188, u189, u190, u191, u192, u193, u194, u195, u196, u197, u198, u199, u200, u201, u202, u203, u204, u205, u206, u207, u208, u209, u210, u211, u212, u213, undef, undef, undef, undef, undef, undef, undef], []⟩) 1029 FL (fun _ _ => True) (fun j => match j with | 0 => u112 | 1 => u113 | 2 => u114 | 3 => u115 | 4 => u116 | 5 => u117 | 6 => u118 | 7 => u119 | 8 => u120 | 9 => u121 | 10 => u122 | 11 => u123 | 12 => u124 | 13 => u125 | 14 => u126 | 15 => u127 | 16 => u128 | 17 => u129 | 18 => u130 | 19 => u131 | 20 => u132 | 21 => u133 | 22 => u134 | 23 => u135 | 24 => u136 | 25 => u137 | 26 => u138 | 27 => u139 | 28 => u140 | _ => undef) rfl ?_ ?_
         ·intro Lq vv wq i hL hS hD hi
          obtain ⟨hr1, hr2, hr3⟩ := mem_ready hi
          have hr1 : i < 29 := hr1
          try dsimp only
          have hcs : i = 0 ∨ i = 1 ∨ i = 2 ∨ i = 3 ∨ i = 4 ∨ i = 5 ∨ i = 6 ∨ i = 7 ∨ i = 8 ∨ i = 9 ∨ i = 10 ∨ i = 11 ∨ i = 12 ∨ i = 13 ∨ i = 14 ∨ i = 15 ∨ i = 16 ∨ i = 17 ∨ i = 18 ∨ i = 19 ∨ i = 20 ∨ i = 21 ∨ i = 22 ∨ i = 23 ∨ i = 24 ∨ i = 25 ∨ i = 26 ∨ i = 27 ∨ i = 28 := by omega
          clear hr1 hr2 hr3
          have hns := hS.open hL hi
          have hB := hS.a hns
          rcases hcs with rfl | rfl | rfl | rfl | rfl | rfl | rfl | rfl | rfl | rfl | rfl | rfl | rfl | rfl | rfl | rfl | rfl | rfl | rfl | rfl | rfl | rfl | rfl | rfl | rfl | rfl | rfl | rfl | rfl
          ·refine wpOpT_of (fun K hK => ?_)
           unfold wpOp
           go_simp
           refine Or.inl ?_
           exact hK _ _ ⟨putT vv 0 (.int .i64 ((t : Nat) : Int)), (by simp [putT]), hS.step hL hi (by decide) (Below.refl _ _) (Lz.toIs F0)⟩
          ·refine wpOpT_of (fun K hK => ?_)
           unfold wpOp
           go_simp
           refine Or.inl ?_
           exact hK _ _ ⟨putT vv 1 (.slice (some ⟨lb, lof, none⟩) aK lc), (by simp [putT]), hS.step hL hi (by decide) (Below.refl _ _) (Lz.toIs F1)⟩
          ·have e1 := Lz.ofIs (hS.f hns 1 (ready_dep hi 1 (by kernel_rfl))) F1
           refine wpOpT_of (fun K hK => ?_)
           unfold wpOp
           simp only [e1]
           go_simp
           refine Or.inl ?_
           exact hK _ _ ⟨putT vv 2 (.int .i64 ((aK : Nat) : Int)), (by simp [putT, e1]), hS.step hL hi (by decide) (Below.refl _ _) (Lz.toIs F2)⟩
          ·have e0 := Lz.ofIs (hS.f hns 0 (ready_dep hi 0 (by kernel_rfl))) F0
           have e2 := Lz.ofIs (hS.f hns 2 (ready_dep hi 2 (by kernel_rfl))) F2
           refine wpOpT_of (fun K hK => ?_)
           unfold wpOp
           simp only [e0, e2]
           go_simp
           refine Or.inl ?_
           exact hK _ _ ⟨putT vv 3 (.bool false), (by simp [putT, e0, e2]), hS.step hL hi (by decide) (Below.refl _ _) (Lz.toIs F3)⟩
          ·have e3 := Lz.ofIs (hS.f hns 3 (ready_dep hi 3 (by kernel_rfl))) F3
           refine wpOpT_of (fun K hK => ?_)
           unfold wpOp
           simp only [e3]
           go_simp
           refine Or.inl ?_
           exact hK _ _ ⟨putT vv 4 (.bool false), (by simp [putT, e3]), hS.step hL hi (by decide) (Below.refl _ _) (Lz.toIs F4)⟩
          ·have e4 := Lz.ofIs (hS.f hns 4 (ready_dep hi 4 (by kernel_rfl))) F4
           refine wpOpT_of (fun K hK => ?_)
           unfold wpOp
           simp only [e4]
           go_simp
           refine Or.inl ?_
           exact hK _ _ ⟨putT vv 5 (.slice (some ⟨lb, lof, none⟩) aK lc), (by simp [putT, e4]), hS.step hL hi (by decide) (Below.refl _ _) (Lz.toIs F5)⟩
          ·have e4 := Lz.ofIs (hS.f hns 4 (ready_dep hi 4 (by kernel_rfl))) F4
           refine wpOpT_of (fun K hK => ?_)
           unfold wpOp
           simp only [e4]
           go_simp
           refine Or.inl ?_
           exact hK _ _ ⟨putT vv 6 (.int .i64 ((t : Nat) : Int)), (by simp [putT, e4]), hS.step hL hi (by decide) (Below.refl _ _) (Lz.toIs F6)⟩
          ·have e4 := Lz.ofIs (hS.f hns 4 (ready_dep hi 4 (by kernel_rfl))) F4
           have e5 := Lz.ofIs (hS.f hns 5 (ready_dep hi 5 (by kernel_rfl))) F5
           have e6 := Lz.ofIs (hS.f hns 6 (ready_dep hi 6 (by kernel_rfl))) F6
           refine wpOpT_of (fun K hK => ?_)
           unfold wpOp
           simp only [e4, e5, e6]
           go_simp
           refine Or.inl ?_
           exact hK _ _ ⟨putT vv 7 (.pointer (some ⟨lb, lof + t * 11, none⟩)), (by simp [putT, e4, e5, e6]), hS.step hL hi (by decide) (Below.refl _ _) (Lz.toIs F7)⟩
          ·have e4 := Lz.ofIs (hS.f hns 4 (ready_dep hi 4 (by kernel_rfl))) F4
           have e7 := Lz.ofIs (hS.f hns 7 (ready_dep hi 7 (by kernel_rfl))) F7
           refine wpOpT_of (fun K hK => ?_)
           unfold wpOp
           simp only [e4, e7]
           go_simp
           refine Or.inl ?_
           exact hK _ _ ⟨putT vv 8 (.pointer (some ⟨lb, lof + t * 11, none⟩)), (by simp [putT, e4, e7]), hS.step hL hi (by decide) (Below.refl _ _) (Lz.toIs F8)⟩
          ·have e4 := Lz.ofIs (hS.f hns 4 (ready_dep hi 4 (by kernel_rfl))) F4
           have e8 := Lz.ofIs (hS.f hns 8 (ready_dep hi 8 (by kernel_rfl))) F8
           have rj := (hB.cell (p := ⟨lb, lof + t * 11, none⟩) llt).trans z0
           refine wpOpT_of (fun K hK => ?_)
           unfold wpOp
           simp only [e4, e8]
           go_simp
           refine Or.inl ?_
           exact hK _ _ ⟨putT vv 9 (.int .i64 i), (by simp [putT, e4, e8]), hS.step hL hi (by decide) (Below.refl _ _) (Lz.toIs F9)⟩
          ·have e4 := Lz.ofIs (hS.f hns 4 (ready_dep hi 4 (by kernel_rfl))) F4
           refine wpOpT_of (fun K hK => ?_)
           unfold wpOp
           simp only [e4]
           go_simp
           refine Or.inl ?_
           exact hK _ _ ⟨putT vv 10 (.int .i64 i), (by simp [putT, e4]), hS.step hL hi (by decide) (Below.refl _ _) (Lz.toIs F10)⟩
          ·have e4 := Lz.ofIs (hS.f hns 4 (ready_dep hi 4 (by kernel_rfl))) F4
           have e9 := Lz.ofIs (hS.f hns 9 (ready_dep hi 9 (by kernel_rfl))) F9
           have e10 := Lz.ofIs (hS.f hns 10 (ready_dep hi 10 (by kernel_rfl))) F10
           refine wpOpT_of (fun K hK => ?_)
           unfold wpOp
           simp only [e4, e9, e10]
           go_simp
           refine Or.inl ?_
           exact hK _ _ ⟨putT vv 11 (.bool false), (by simp [putT, e4, e9, e10]), hS.step hL hi (by decide) (Below.refl _ _) (Lz.toIs F11)⟩
          ·have e4 := Lz.ofIs (hS.f hns 4 (ready_dep hi 4 (by kernel_rfl))) F4
           have e11 := Lz.ofIs (hS.f hns 11 (ready_dep hi 11 (by kernel_rfl))) F11
           refine wpOpT_of (fun K hK => ?_)
           unfold wpOp
           simp only [e4, e11]
           go_simp
           refine Or.inl ?_
           exact hK _ _ ⟨putT vv 12 (.bool false), (by simp [putT, e4, e11]), hS.step hL hi (by decide) (Below.refl _ _) (Lz.toIs F12)⟩
          ·have e12 := Lz.ofIs (hS.f hns 12 (ready_dep hi 12 (by kernel_rfl))) F12
           refine wpOpT_of (fun K hK => ?_)
           unfold wpOp
           simp only [e12]
           go_simp
           refine Or.inl ?_
           exact hK _ _ ⟨putT vv 13 (.bool false), (by simp [putT, e12]), hS.step hL hi (by decide) (Below.refl _ _) (Lz.toIs F13)⟩
          ·have e13 := Lz.ofIs (hS.f hns 13 (ready_dep hi 13 (by kernel_rfl))) F13
           refine wpOpT_of (fun K hK => ?_)
           unfold wpOp
           simp only [e13]
           go_simp
           refine Or.inl ?_
           exact hK _ _ ⟨putT vv 14 (.slice (some ⟨lb, lof, none⟩) aK lc), (by simp [putT, e13]), hS.step hL hi (by decide) (Below.refl _ _) (Lz.toIs F14)⟩
          ·have e13 := Lz.ofIs (hS.f hns 13 (ready_dep hi 13 (by kernel_rfl))) F13
           refine wpOpT_of (fun K hK => ?_)
           unfold wpOp
           simp only [e13]
           go_simp
           refine Or.inl ?_
           exact hK _ _ ⟨putT vv 15 (.int .i64 ((t : Nat) : Int)), (by simp [putT, e13]), hS.step hL hi (by decide) (Below.refl _ _) (Lz.toIs F15)⟩
          ·have e13 := Lz.ofIs (hS.f hns 13 (ready_dep hi 13 (by kernel_rfl))) F13
           have e14 := Lz.ofIs (hS.f hns 14 (ready_dep hi 14 (by kernel_rfl))) F14
           have e15 := Lz.ofIs (hS.f hns 15 (ready_dep hi 15 (by kernel_rfl))) F15
           refine wpOpT_of (fun K hK => ?_)
           unfold wpOp
           simp only [e13, e14, e15]
           go_simp
           refine Or.inl ?_
           exact hK _ _ ⟨putT vv 16 (.pointer (some ⟨lb, lof + t * 11, none⟩)), (by simp [putT, e13, e14, e15]), hS.step hL hi (by decide) (Below.refl _ _) (Lz.toIs F16)⟩
          ·have e13 := Lz.ofIs (hS.f hns 13 (ready_dep hi 13 (by kernel_rfl))) F13
           have e16 := Lz.ofIs (hS.f hns 16 (ready_dep hi 16 (by kernel_rfl))) F16
           refine wpOpT_of (fun K hK => ?_)
           unfold wpOp
           simp only [e13, e16]
           go_simp
           refine Or.inl ?_
           exact hK _ _ ⟨putT vv 17 (.pointer (some ⟨lb, lof + t * 11 + 1, none⟩)), (by simp [putT, e13, e16]), hS.step hL hi (by decide) (Below.refl _ _) (Lz.toIs F17)⟩
          ·have e13 := Lz.ofIs (hS.f hns 13 (ready_dep hi 13 (by kernel_rfl))) F13
           have e17 := Lz.ofIs (hS.f hns 17 (ready_dep hi 17 (by kernel_rfl))) F17
           have rj := (hB.cell (p := ⟨lb, lof + t * 11 + 1, none⟩) llt).trans z1
           refine wpOpT_of (fun K hK => ?_)
           unfold wpOp
           simp only [e13, e17]
           go_simp
           refine Or.inl ?_
           exact hK _ _ ⟨putT vv 18 (.int .u8 (t3Q nn k : Nat)), (by simp [putT, e13, e17]), hS.step hL hi (by decide) (Below.refl _ _) (Lz.toIs F18)⟩
          ·have e13 := Lz.ofIs (hS.f hns 13 (ready_dep hi 13 (by kernel_rfl))) F13
           refine wpOpT_of (fun K hK => ?_)
           unfold wpOp
           simp only [e13]
           go_simp
           refine Or.inl ?_
           exact hK _ _ ⟨putT vv 19 (.slice (some ⟨wq.heap.size, 0, none⟩) 4 4), (by simp [putT, e13]), hS.step hL hi (by decide) ((Below.refl _ _).alloc (Nat.le_refl _) _) (Lz.toGn F19 (⟨_, rfl, u8_four _ _, by simp⟩))⟩
          ·have e13 := Lz.ofIs (hS.f hns 13 (ready_dep hi 13 (by kernel_rfl))) F13
           refine wpOpT_of (fun K hK => ?_)
           unfold wpOp
           simp only [e13]
           go_simp
           refine Or.inl ?_
           exact hK _ _ ⟨putT vv 20 (.int .i64 nn), (by simp [putT, e13]), hS.step hL hi (by decide) (Below.refl _ _) (Lz.toIs F20)⟩
          ·have e13 := Lz.ofIs (hS.f hns 13 (ready_dep hi 13 (by kernel_rfl))) F13
           obtain ⟨b19, e19, u19, l19⟩ := Lz.ofGn (hS.f hns 19 (ready_dep hi 19 (by kernel_rfl))) F19
           have e20 := Lz.ofIs (hS.f hns 20 (ready_dep hi 20 (by kernel_rfl))) F20
           refine wpOpT_of (fun K hK => ?_)
           unfold wpOp
           simp only [e13, e19, e20]
           go_simp
           refine Or.inl ?_
           exact hK _ _ ⟨putT vv 21 (.pointer (some ⟨b19, nn, none⟩)), (by simp [putT, e13, e19, e20]), hS.step hL hi (by decide) (Below.refl _ _) (Lz.toGn F21 (⟨_, rfl, u19 nn (by omega), l19⟩))⟩
          ·have e13 := Lz.ofIs (hS.f hns 13 (ready_dep hi 13 (by kernel_rfl))) F13
           obtain ⟨b21, e21, u21, l21⟩ := Lz.ofGn (hS.f hns 21 (ready_dep hi 21 (by kernel_rfl))) F21
           refine wpOpT_of (fun K hK => ?_)
           unfold wpOp
           simp only [e13, e21]
           go_simp
           refine Or.inl ?_
           exact hK _ _ ⟨putT vv 22 (.int .u8 (t4Q nn : Nat)), (by simp [putT, e13, e21]), hS.step hL hi (by decide) (Below.refl _ _) (Lz.toIs F22)⟩
          ·have e13 := Lz.ofIs (hS.f hns 13 (ready_dep hi 13 (by kernel_rfl))) F13
           have e22 := Lz.ofIs (hS.f hns 22 (ready_dep hi 22 (by kernel_rfl))) F22
           refine wpOpT_of (fun K hK => ?_)
           unfold wpOp
           simp only [e13, e22]
           go_simp
           refine Or.inl ?_
           exact hK _ _ ⟨putT vv 23 (.slice (some ⟨wq.heap.size, 0, none⟩) 3 3), (by simp [putT, e13, e22]), hS.step hL hi (by decide) ((Below.refl _ _).alloc (Nat.le_refl _) _) (Lz.toGn F23 (⟨_, rfl, u8_three _ _ _, by simp⟩))⟩
          ·have e13 := Lz.ofIs (hS.f hns 13 (ready_dep hi 13 (by kernel_rfl))) F13
           refine wpOpT_of (fun K hK => ?_)
           unfold wpOp
           simp only [e13]
           go_simp
           refine Or.inl ?_
           exact hK _ _ ⟨putT vv 24 (.int .i64 k), (by simp [putT, e13]), hS.step hL hi (by decide) (Below.refl _ _) (Lz.toIs F24)⟩
          ·have e13 := Lz.ofIs (hS.f hns 13 (ready_dep hi 13 (by kernel_rfl))) F13
           obtain ⟨b23, e23, u23, l23⟩ := Lz.ofGn (hS.f hns 23 (ready_dep hi 23 (by kernel_rfl))) F23
           have e24 := Lz.ofIs (hS.f hns 24 (ready_dep hi 24 (by kernel_rfl))) F24
           refine wpOpT_of (fun K hK => ?_)
           unfold wpOp
           simp only [e13, e23, e24]
           go_simp
           refine Or.inl ?_
           exact hK _ _ ⟨putT vv 25 (.pointer (some ⟨b23, k, none⟩)), (by simp [putT, e13, e23, e24]), hS.step hL hi (by decide) (Below.refl _ _) (Lz.toGn F25 (⟨_, rfl, u23 k (by omega), l23⟩))⟩
          ·have e13 := Lz.ofIs (hS.f hns 13 (ready_dep hi 13 (by kernel_rfl))) F13
           obtain ⟨b25, e25, u25, l25⟩ := Lz.ofGn (hS.f hns 25 (ready_dep hi 25 (by kernel_rfl))) F25
           refine wpOpT_of (fun K hK => ?_)
           unfold wpOp
           simp only [e13, e25]
           go_simp
           refine Or.inl ?_
           exact hK _ _ ⟨putT vv 26 (.int .u8 (t3Q nn k : Nat)), (by simp [putT, e13, e25]), hS.step hL hi (by decide) (Below.refl _ _) (Lz.toIs F26)⟩
          ·have e13 := Lz.ofIs (hS.f hns 13 (ready_dep hi 13 (by kernel_rfl))) F13
           have e18 := Lz.ofIs (hS.f hns 18 (ready_dep hi 18 (by kernel_rfl))) F18
           have e26 := Lz.ofIs (hS.f hns 26 (ready_dep hi 26 (by kernel_rfl))) F26
           refine wpOpT_of (fun K hK => ?_)
           unfold wpOp
           simp only [e13, e18, e26]
           go_simp
           refine Or.inl ?_
           exact hK _ _ ⟨putT vv 27 (.bool false), (by simp [putT, e13, e18, e26]), hS.step hL hi (by decide) (Below.refl _ _) (Lz.toIs F27)⟩
          ·have e13 := Lz.ofIs (hS.f hns 13 (ready_dep hi 13 (by kernel_rfl))) F13
           have e27 := Lz.ofIs (hS.f hns 27 (ready_dep hi 27 (by kernel_rfl))) F27
           refine wpOpT_of (fun K hK => ?_)
           unfold wpOp
           simp only [e13, e27]
           go_simp
           refine Or.inl ?_
           exact hK _ _ ⟨putT vv 28 (.bool false), (by simp [putT, e13, e27]), hS.step hL hi (by decide) (Below.refl _ _) (Lz.toIs F28)⟩
         ·intro Lq vv wq hL hS hr
          have on := all_done hL hr (by kernel_rfl)
          have hns : ¬ On Lq 1029 := onT_over (by rw [hL]; exact Nat.le_of_ble_eq_true (by kernel_rfl))
          have hB := hS.a hns
          have v9 := Lz.ofIs (hS.f hns 28 (on 28 (by decide))) F28
          try dsimp only
          rw [v9]
          go_wp2_with fail
          go_meet
          exact ⟨rfl, hB⟩
        obtain ⟨rfl, hB⟩ := hcut
        have bk2 := bk.trans (hB.mono bk.size)
        replace z0 := (hB.cell (p := ⟨lb, lof + t * 11, none⟩) llt).trans z0
        replace z1 := (hB.cell (p := ⟨lb, lof + t * 11 + 1, none⟩) llt).trans z1
        replace z2 := (hB.cell (p := ⟨lb, lof + t * 11 + 2, none⟩) llt).trans z2
        replace z3 := (hB.cell (p := ⟨lb, lof + t * 11 + 3, none⟩) llt).trans z3
        replace z4 := (hB.cell (p := ⟨lb, lof + t * 11 + 4, none⟩) llt).trans z4
        replace z5 := (hB.cell (p := ⟨lb, lof + t * 11 + 5, none⟩) llt).trans z5
        replace z6 := (hB.cell (p := ⟨lb, lof + t * 11 + 6, none⟩) llt).trans z6
        replace z7 := (hB.cell (p := ⟨lb, lof + t * 11 + 7, none⟩) llt).trans z7
        replace z8 := (hB.cell (p := ⟨lb, lof + t * 11 + 8, none⟩) llt).trans z8
        replace z9 := (hB.cell (p := ⟨lb, lof + t * 11 + 9, none⟩) llt).trans z9
        replace z10 := (hB.cell (p := ⟨lb, lof + t * 11 + 10, none⟩) llt).trans z10
        replace X8k := X8k.below hB
        replace llt := Nat.lt_of_lt_of_le llt hB.size
        clear hB bk
        generalize wc = W21 at *
        have S14 := SBox.new W21 ⟨i, t3Q nn k, ⟨r0, r1, r2, r3, r4, r5⟩, ((sl, sh), sn)⟩ 45
        have st := (Below.refl W21.heap.size W21).alloc (Nat.le_refl _) (sgO ⟨i, t3Q nn k, ⟨r0, r1, r2, r3, r4, r5⟩, ((sl, sh), sn)⟩ 45)
        unfold sgO at S14 st
        simp only at S14 st
        go_upto_region 24 with fail
        generalize W21.alloc (.cells #[.int .i64 i, .int .u8 (t3Q nn k : Nat), .int .i64 r0, .int .i64 r1, .int .i64 r2, .int .i64 r3, .int .i64 r4, .int .i64 r5, .float .f64 sl, .float .f64 sh, .float .f64 sn] 45) = W22 at *
        replace X8k := X8k.below st
        have bk3 := bk2.trans (st.mono bk2.size)
        clear z0 z1 z2 z3 z4 z5 z6 z7 z8 z9 z10 llt st bk2
        generalize W21.heap.size = sb at *
        obtain ⟨⟨s0, s1, s2, s3, s4, s5, s6, s7, s8', s9', s10⟩, -, sbl⟩ := id S14
        simp only [Nat.zero_add] at s0 s1 s2 s3 s4 s5 s6 s7 s8' s9' s10
        have o1 := C.o1
        have o2 := C.o2
        have o3 := C.o3
        have o4 := C.o4
        have t2 := C.t2
        unfold mV at t2
        simp only at t2
        obtain ⟨e0, e1, e2, e3, e4, e5, e6, e7, e8⟩ := X8k.at0
        simp only [Nat.zero_add] at e0 e1 e2 e3 e4 e5 e6 e7 e8
        go_upto_region 26 with fail
        go_upto_region 27 with (go_at_call 6; refine (t2 _).mono ?_; rintro e w4 ⟨vo, vc, uo, uc, rfl, nO, nU, b4⟩)
        have a1 := (Below.refl w4.heap.size w4).alloc (Nat.le_refl _) (.cells #[.bool OV.neg, .slice vo OV.mag.length vc, .int .i64 OV.exp] 49)
        have OB : DyB OV (w4.alloc (.cells #[.bool OV.neg, .slice vo OV.mag.length vc, .int .i64 OV.exp] 49)) w4.heap.size := ⟨vo, vc, D3.new _ _ _ _ _, nO.below a1⟩
        have a2 := (Below.refl (w4.alloc (.cells #[.bool OV.neg, .slice vo OV.mag.length vc, .int .i64 OV.exp] 49)).heap.size (w4.alloc (.cells #[.bool OV.neg, .slice vo OV.mag.length vc, .int .i64 OV.exp] 49))).alloc (Nat.le_refl _) (.cells #[.bool UN.neg, .slice uo UN.mag.length uc, .int .i64 UN.exp] 49)
        have UB : DyB UN ((w4.alloc (.cells #[.bool OV.neg, .slice vo OV.mag.length vc, .int .i64 OV.exp] 49)).alloc (.cells #[.bool UN.neg, .slice uo UN.mag.length uc, .int .i64 UN.exp] 49)) (w4.alloc (.cells #[.bool OV.neg, .slice vo OV.mag.length vc, .int .i64 OV.exp] 49)).heap.size := ⟨uo, uc, D3.new _ _ _ _ _, (nU.below a1).below a2⟩
        replace OB := OB.below a2
        have b5 := b4.trans ((a1.trans (a2.mono a1.size)).mono b4.size)
        rw [show (w4.alloc (.cells #[.bool OV.neg, .slice vo OV.mag.length vc, .int .i64 OV.exp] 49)).heap.size = w4.heap.size + 1 by simp] at UB
        replace S14 := S14.below b5
        have bk4 := bk3.trans (b5.mono bk3.size)
        clear nO nU a1 a2 b4 b5 bk3 X8k e0 e1 e2 e3 e4 e5 e6 e7 e8 o1 o2 o3 o4 t2 s0 s1 s2 s3 s4 s5 s6 s7 s8' s9' s10 sbl
        generalize (w4.alloc (.cells #[.bool OV.neg, .slice vo OV.mag.length vc, .int .i64 OV.exp] 49)).alloc (.cells #[.bool UN.neg, .slice uo UN.mag.length uc, .int .i64 UN.exp] 49) = W5 at *
        generalize w4.heap.size = ob at *
        obtain ⟨⟨s0, s1, s2, s3, s4, s5, s6, s7, s8', s9', s10⟩, -, sbl⟩ := id S14
        simp only [Nat.zero_add] at s0 s1 s2 s3 s4 s5 s6 s7 s8' s9' s10
        go_cut [17] from 107 to 213 (fun sx wx => ∃ g, sx = .pointer (some ⟨g, 0, none⟩) ∧ DyB LO wx g ∧ Below W5.heap.size W5 wx ∧ W5.heap.size ≤ g)
        case first =>
         obtain ⟨FL, hFL⟩ : ∃ fz : Nat → Lz, fz = (fun j => match j with | 0 => .is (.pointer (some ⟨sb, 8, none⟩)) | 1 => .is (.pointer (some ⟨sb, 8, none⟩)) | 2 => .is (.float .f64 sl) | 3 => .gn (DyV (EL)) (fun _ _ _ h hb => h.below hb) | 4 => .is (.pointer (some ⟨sb, 8, none⟩)) | 5 => .is (.pointer (some ⟨sb, 8, none⟩)) | 6 => .is (.float .f64 sl) | 7 => .gn (DyV (EL)) (fun _ _ _ h hb => h.below hb) | 8 => .gn (DyV (UN)) (fun _ _ _ h hb => h.below hb) | 9 => .gn (fun a x => ∃ b, x = .slice (some ⟨b, 0, none⟩) 3 3 ∧ DRow [EL, EL, UN] a b) (fun a a' x h hb => h.elim fun b h => ⟨b, h.1, h.2.below hb⟩) | 10 => .gn (DyV (LO)) (fun _ _ _ h hb => h.below hb) | 11 => .gn (DyP W5.heap.size) (fun _ _ _ h hb => h.below hb) | 12 => .tr | _ => .tr) := ⟨_, rfl⟩
         have F0 := congrFun hFL 0
         have F1 := congrFun hFL 1
         have F2 := congrFun hFL 2
         have F3 := congrFun hFL 3
         have F4 := congrFun hFL 4
         have F5 := congrFun hFL 5
         have F6 := congrFun hFL 6
         have F7 := congrFun hFL 7
         have F8 := congrFun hFL 8
         have F9 := congrFun hFL 9
         have F10 := congrFun hFL 10
         have F11 := congrFun hFL 11
         have F12 := congrFun hFL 12
         simp only at F0 F1 F2 F3 F4 F5 F6 F7 F8 F9 F10 F11 F12
         clear hFL
         refine region_rgY (by kernel_rfl) (fun vv => ⟨#[.agg #[.int .i64 n, .slice aa LA ac, .slice fa LF fc, .slice ma LM mc, .slice na LR nc], .pointer (some ⟨w.heap.size, 0, none⟩), u2, .pointer (some ⟨pb, 0, none⟩), .slice (some ⟨lb, lof, none⟩) aK lc, .int .i64 0, .int .i64 ↑t, .int .i64 ↑i, .pointer (some ⟨B8, 0, none⟩), .int .i64 dx, .int .i64 dy, .int .i64 l2, .int .i64 ↑nn, .int .i64 ↑k, .pointer (some ⟨sb, 0, none⟩), .pointer (some ⟨ob, 0, none⟩), .pointer (some ⟨ob + 1, 0, none⟩), vv 11, u18, .agg #[.int .i64 n, .slice aa LA ac, .slice fa LF fc, .slice ma LM mc, .slice na LR nc], .agg #[.slice (some ⟨jbk, jof, none⟩) J jc, .slice (some ⟨mbk, mof, none⟩) K mc'], .tuple #[.slice (some ⟨lb, lof, none⟩) aK lc, .int .i64 0], .agg #[.slice (some ⟨jbk, jof, none⟩) J jc, .slice (some ⟨mbk, mof, none⟩) K mc'], .tuple #[.slice (some ⟨lb, lof, none⟩) aK lc, .int .i64 0], .slice (some ⟨lb, lof, none⟩) aK lc, .int .i64 0, .int .i64 0, .bool false, u28, u29, u30, u31, u32, u33, u34, u35, u36, u37, u38, u39, u40, u41, u42, u43, u44, u45, u46, u47, u48, u49, u50, u51, u52, u53, u54, u55, u56, u57, u58, u59, u60, u61, u62, u63, u64, u65, u66, u67, u68, u69, u70, u71, u72, u73, u74, u75, u76, u77, u78, u79, u80, u81, u82, u83, u84, u85, u86, u87, u88, u89, u90, u91, u92, u93, u94, u95, u96, u97, u98, u99, u100, u101, u102, u103, u104, u105, u106, u107, u108, u109, u110, u111, u112, u113, u114, u115, u116, u117, u118, u119, u120, u121, u122, u123, u124, u125, u126, u127, u128, u129, u130, u131, u132, u133, u134, u135, u136, u137, u138, u139, .bool false, .slice (some ⟨lb, lof, none⟩) aK lc, .int .i64 ↑t, .pointer (some ⟨lb, lof + t * 11, none⟩), .agg #[.int .i64 ↑i, .int .u8 ↑(t3Q nn k), .int .i64 r0, .int .i64 r1, .int .i64 r2, .int .i64 r3, .int .i64 r4, .int .i64 r5, .float .f64 sl, .float .f64 sh, .float .f64 sn], .pointer (some ⟨sb, 8, none⟩), .pointer (some ⟨sb, 8, none⟩), .float .f64 sl, .bool true, .bool true, .pointer (some ⟨sb, 8, none⟩), .pointer (some ⟨sb, 8, none⟩), .float .f64 sl, .pointer (some ⟨sb, 10, none⟩), .float .f64 sn, .bool true, .bool true, .bool true, .pointer (some ⟨sb, 10, none⟩), .float .f64 sn, .pointer (some ⟨sb, 8, none⟩), .pointer (some ⟨sb, 9, none⟩), .float .f64 sh, .bool true, .bool true, .bool true, .pointer (some ⟨sb, 8, none⟩), .pointer (some ⟨sb, 9, none⟩), .float .f64 sh, .bool true, .bool true, .bool false, .tuple #[.agg #[.bool OV.neg, .slice vo OV.mag.length vc, .int .i64 OV.exp], .agg #[.bool UN.neg, .slice uo UN.mag.length uc, .int .i64 UN.exp]], .agg #[.string mnm, .int .u8 ↑mkd, .int .i64 ↑ea, .int .i64 ↑eb, .bool mha, .bool mhb, .float .f64 me, .float .f64 mar, .float .f64 mi], .int .i64 l2, .pointer (some ⟨sb, 1, none⟩), .int .u8 ↑(t3Q nn k), .tuple #[.agg #[.bool OV.neg, .slice vo OV.mag.length vc, .int .i64 OV.exp], .agg #[.bool UN.neg, .slice uo UN.mag.length uc, .int .i64 UN.exp]], .agg #[.bool OV.neg, .slice vo OV.mag.length vc, .int .i64 OV.exp], .agg #[.bool UN.neg, .slice uo UN.mag.length uc, .int .i64 UN.exp], vv 0, vv 1, vv 2, vv 3, vv 4, vv 5, vv 6, vv 7, vv 8, vv 9, vv 10, u191, u192, u193, u194, u195, u196, u197, u198, u199, u200, u201, u202, u203, u204, u205, u206, u207, u208, u209, u210, u211, u212, u213, undef, undef, undef, undef, undef, undef, undef], []⟩) 12 FL (fun wz vz => ∃ g, vz 11 = .pointer (some ⟨g, 0, none⟩) ∧ DyB LO wz g ∧ Below W5.heap.size W5 wz ∧ W5.heap.size ≤ g) (fun j => match j with | 0 => u180 | 1 => u181 | 2 => u182 | 3 => u183 | 4 => u184 | 5 => u185 | 6 => u186 | 7 => u187 | 8 => u188 | 9 => u189 | 10 => u190 | 11 => u17 | _ => undef) rfl ?_ ?_
         ·intro Lq vv wq i hL hS hD hi
          obtain ⟨hr1, hr2, hr3⟩ := mem_ready hi
          have hr1 : i < 13 := hr1
          try dsimp only
          have hcs : i = 0 ∨ i = 1 ∨ i = 2 ∨ i = 3 ∨ i = 4 ∨ i = 5 ∨ i = 6 ∨ i = 7 ∨ i = 8 ∨ i = 9 ∨ i = 10 ∨ i = 11 ∨ i = 12 := by omega
          clear hr1 hr2 hr3
          have hns := hS.open hL hi
          have hB := hS.a hns
          rcases hcs with rfl | rfl | rfl | rfl | rfl | rfl | rfl | rfl | rfl | rfl | rfl | rfl | rfl
          ·refine wpOpT_of (fun K hK => ?_)
           unfold wpOp
           go_simp
           refine Or.inl ?_
           exact hK _ _ ⟨putT vv 0 (.pointer (some ⟨sb, 8, none⟩)), (by simp [putT]), hS.step hL hi (by decide) (Below.refl _ _) (Lz.toIs F0)⟩
          ·have e0 := Lz.ofIs (hS.f hns 0 (ready_dep hi 0 (by kernel_rfl))) F0
           refine wpOpT_of (fun K hK => ?_)
           unfold wpOp
           simp only [e0]
           go_simp
           refine Or.inl ?_
           exact hK _ _ ⟨putT vv 1 (.pointer (some ⟨sb, 8, none⟩)), (by simp [putT, e0]), hS.step hL hi (by decide) (Below.refl _ _) (Lz.toIs F1)⟩
          ·have e1 := Lz.ofIs (hS.f hns 1 (ready_dep hi 1 (by kernel_rfl))) F1
           have rj := (hB.cell (p := ⟨sb, 8, none⟩) sbl).trans s8'
           refine wpOpT_of (fun K hK => ?_)
           unfold wpOp
           simp only [e1]
           go_simp
           refine Or.inl ?_
           exact hK _ _ ⟨putT vv 2 (.float .f64 sl), (by simp [putT, e1]), hS.step hL hi (by decide) (Below.refl _ _) (Lz.toIs F2)⟩
          ·have e2 := Lz.ofIs (hS.f hns 2 (ready_dep hi 2 (by kernel_rfl))) F2
           refine wpOpT_of (fun K hK => ?_)
           unfold wpOp
           simp only [e2]
           go_simp
           refine Or.inl ?_
           go_at_call 8
           refine (C.el _).mono ?_
           rintro e w1 ⟨ro, rc, rfl, kr, bc⟩
           exact hK _ _ ⟨putT vv 3 (.agg #[.bool (EL).neg, .slice ro (EL).mag.length rc, .int .i64 (EL).exp]), (by simp [putT, e2]), hS.step hL hi (by decide) (bc) (Lz.toGn F3 (⟨_, _, rfl, kr⟩))⟩
          ·refine wpOpT_of (fun K hK => ?_)
           unfold wpOp
           go_simp
           refine Or.inl ?_
           exact hK _ _ ⟨putT vv 4 (.pointer (some ⟨sb, 8, none⟩)), (by simp [putT]), hS.step hL hi (by decide) (Below.refl _ _) (Lz.toIs F4)⟩
          ·have e4 := Lz.ofIs (hS.f hns 4 (ready_dep hi 4 (by kernel_rfl))) F4
           refine wpOpT_of (fun K hK => ?_)
           unfold wpOp
           simp only [e4]
           go_simp
           refine Or.inl ?_
           exact hK _ _ ⟨putT vv 5 (.pointer (some ⟨sb, 8, none⟩)), (by simp [putT, e4]), hS.step hL hi (by decide) (Below.refl _ _) (Lz.toIs F5)⟩
          ·have e5 := Lz.ofIs (hS.f hns 5 (ready_dep hi 5 (by kernel_rfl))) F5
           have rj := (hB.cell (p := ⟨sb, 8, none⟩) sbl).trans s8'
           refine wpOpT_of (fun K hK => ?_)
           unfold wpOp
           simp only [e5]
           go_simp
           refine Or.inl ?_
           exact hK _ _ ⟨putT vv 6 (.float .f64 sl), (by simp [putT, e5]), hS.step hL hi (by decide) (Below.refl _ _) (Lz.toIs F6)⟩
          ·have e6 := Lz.ofIs (hS.f hns 6 (ready_dep hi 6 (by kernel_rfl))) F6
           refine wpOpT_of (fun K hK => ?_)
           unfold wpOp
           simp only [e6]
           go_simp
           refine Or.inl ?_
           go_at_call 8
           refine (C.el _).mono ?_
           rintro e w1 ⟨ro, rc, rfl, kr, bc⟩
           exact hK _ _ ⟨putT vv 7 (.agg #[.bool (EL).neg, .slice ro (EL).mag.length rc, .int .i64 (EL).exp]), (by simp [putT, e6]), hS.step hL hi (by decide) (bc) (Lz.toGn F7 (⟨_, _, rfl, kr⟩))⟩
          ·obtain ⟨pa, pc, PD, PN⟩ := UB.below hB
           obtain ⟨p0, p1, p2, _, _, _, _, _⟩ := id PD
           refine wpOpT_of (fun K hK => ?_)
           unfold wpOp
           go_simp
           refine Or.inl ?_
           exact hK _ _ ⟨putT vv 8 (.agg #[.bool (UN).neg, .slice pa (UN).mag.length pc, .int .i64 (UN).exp]), (by simp [putT]), hS.step hL hi (by decide) (Below.refl _ _) (Lz.toGn F8 (⟨_, _, rfl, PN⟩))⟩
          ·obtain ⟨ao_3, ac_3, e3, u3⟩ := Lz.ofGn (hS.f hns 3 (ready_dep hi 3 (by kernel_rfl))) F3
           obtain ⟨ao_7, ac_7, e7, u7⟩ := Lz.ofGn (hS.f hns 7 (ready_dep hi 7 (by kernel_rfl))) F7
           obtain ⟨ao_8, ac_8, e8, u8⟩ := Lz.ofGn (hS.f hns 8 (ready_dep hi 8 (by kernel_rfl))) F8
           refine wpOpT_of (fun K hK => ?_)
           unfold wpOp
           simp only [e3, e7, e8]
           go_simp
           refine Or.inl ?_
           exact hK _ _ ⟨putT vv 9 (.slice (some ⟨wq.heap.size, 0, none⟩) 3 3), (by simp [putT, e3, e7, e8]), hS.step hL hi (by decide) ((Below.refl _ _).alloc (Nat.le_refl _) _) (Lz.toGn F9 (⟨_, rfl, drow_three _ u3 u7 u8⟩))⟩
          ·obtain ⟨b_9, e9, u9⟩ := Lz.ofGn (hS.f hns 9 (ready_dep hi 9 (by kernel_rfl))) F9
           refine wpOpT_of (fun K hK => ?_)
           unfold wpOp
           simp only [e9]
           go_simp
           refine Or.inl ?_
           go_at_call 7
           refine (C.tl _ _ u9).mono ?_
           rintro e w1 ⟨ro, rc, rfl, kr, bc⟩
           exact hK _ _ ⟨putT vv 10 (.agg #[.bool (LO).neg, .slice ro (LO).mag.length rc, .int .i64 (LO).exp]), (by simp [putT, e9]), hS.step hL hi (by decide) (bc) (Lz.toGn F10 (⟨_, _, rfl, kr⟩))⟩
          ·refine wpOpT_of (fun K hK => ?_)
           unfold wpOp
           go_simp
           refine Or.inl ?_
           exact hK _ _ ⟨putT vv 11 (.pointer (some ⟨wq.heap.size, 0, none⟩)), (by simp [putT]), hS.step hL hi (by decide) ((Below.refl _ _).alloc (Nat.le_refl _) _) (Lz.toGn F11 (⟨_, rfl, DyB.new wq _, hB.size⟩))⟩
          ·obtain ⟨ao_10, ac_10, e10, u10⟩ := Lz.ofGn (hS.f hns 10 (ready_dep hi 10 (by kernel_rfl))) F10
           obtain ⟨g11, e11, u11, t11⟩ := Lz.ofGn (hS.f hns 11 (ready_dep hi 11 (by kernel_rfl))) F11
           obtain ⟨qa, qc, QB, QN⟩ := id u11
           obtain ⟨p0, p1, p2, f0, f1, f2, _, _⟩ := id QB
           refine wpOpT_of (fun K hK => ?_)
           unfold wpOp
           simp only [e10, e11]
           go_simp
           refine Or.inl ?_
           exact hK _ _ ⟨putT vv 12 undef, (by simp [putT, e10, e11]), hS.last hL hi (allY hD hi (by kernel_rfl)) (⟨g11, by simp [putT, e11], u11.fill u10, below_set3 hB t11 _ _ _, t11⟩)⟩
         ·intro Lq vv wq hL hS hr
          have on := all_done hL hr (by kernel_rfl)
          obtain ⟨g, hq, GB, bq, gl⟩ := hS.z (on 12 (by decide))
          try dsimp only
          rw [hq]
          go_wp2_with fail
          go_meet
          exact ⟨g, rfl, GB, bq, gl⟩
        obtain ⟨lg, rfl, LB, bq, lgl⟩ := hcut
        replace S14 := S14.below bq
        replace OB := OB.below bq
        replace UB := UB.below bq
        replace bk4 := bk4.trans (bq.mono bk4.size)
        clear s0 s1 s2 s3 s4 s5 s6 s7 s8' s9' s10 sbl bq lgl
        generalize wc = W6 at *
        obtain ⟨⟨s0, s1, s2, s3, s4, s5, s6, s7, s8', s9', s10⟩, -, sbl⟩ := id S14
        simp only [Nat.zero_add] at s0 s1 s2 s3 s4 s5 s6 s7 s8' s9' s10
        go_upto_region 28 with fail
        go_cut [18] from 107 to 213 (fun sx wx => ∃ g, sx = .pointer (some ⟨g, 0, none⟩) ∧ DyB HI wx g ∧ Below W6.heap.size W6 wx ∧ W6.heap.size ≤ g)
        case first =>
         obtain ⟨FL, hFL⟩ : ∃ fz : Nat → Lz, fz = (fun j => match j with | 0 => .is (.pointer (some ⟨sb, 8, none⟩)) | 1 => .is (.pointer (some ⟨sb, 9, none⟩)) | 2 => .is (.float .f64 sh) | 3 => .gn (DyV (EH)) (fun _ _ _ h hb => h.below hb) | 4 => .is (.pointer (some ⟨sb, 8, none⟩)) | 5 => .is (.pointer (some ⟨sb, 9, none⟩)) | 6 => .is (.float .f64 sh) | 7 => .gn (DyV (EH)) (fun _ _ _ h hb => h.below hb) | 8 => .gn (DyV (UN)) (fun _ _ _ h hb => h.below hb) | 9 => .gn (fun a x => ∃ b, x = .slice (some ⟨b, 0, none⟩) 3 3 ∧ DRow [EH, EH, UN] a b) (fun a a' x h hb => h.elim fun b h => ⟨b, h.1, h.2.below hb⟩) | 10 => .gn (DyV (HI)) (fun _ _ _ h hb => h.below hb) | 11 => .gn (DyP W6.heap.size) (fun _ _ _ h hb => h.below hb) | 12 => .tr | _ => .tr) := ⟨_, rfl⟩
         have F0 := congrFun hFL 0
         have F1 := congrFun hFL 1
         have F2 := congrFun hFL 2
         have F3 := congrFun hFL 3
         have F4 := congrFun hFL 4
         have F5 := congrFun hFL 5
         have F6 := congrFun hFL 6
         have F7 := congrFun hFL 7
         have F8 := congrFun hFL 8
         have F9 := congrFun hFL 9
         have F10 := congrFun hFL 10
         have F11 := congrFun hFL 11
         have F12 := congrFun hFL 12
         simp only at F0 F1 F2 F3 F4 F5 F6 F7 F8 F9 F10 F11 F12
         clear hFL
         refine region_rgY (by kernel_rfl) (fun vv => ⟨#[.agg #[.int .i64 n, .slice aa LA ac, .slice fa LF fc, .slice ma LM mc, .slice na LR nc], .pointer (some ⟨w.heap.size, 0, none⟩), u2, .pointer (some ⟨pb, 0, none⟩), .slice (some ⟨lb, lof, none⟩) aK lc, .int .i64 0, .int .i64 ↑t, .int .i64 ↑i, .pointer (some ⟨B8, 0, none⟩), .int .i64 dx, .int .i64 dy, .int .i64 l2, .int .i64 ↑nn, .int .i64 ↑k, .pointer (some ⟨sb, 0, none⟩), .pointer (some ⟨ob, 0, none⟩), .pointer (some ⟨ob + 1, 0, none⟩), .pointer (some ⟨lg, 0, none⟩), vv 11, .agg #[.int .i64 n, .slice aa LA ac, .slice fa LF fc, .slice ma LM mc, .slice na LR nc], .agg #[.slice (some ⟨jbk, jof, none⟩) J jc, .slice (some ⟨mbk, mof, none⟩) K mc'], .tuple #[.slice (some ⟨lb, lof, none⟩) aK lc, .int .i64 0], .agg #[.slice (some ⟨jbk, jof, none⟩) J jc, .slice (some ⟨mbk, mof, none⟩) K mc'], .tuple #[.slice (some ⟨lb, lof, none⟩) aK lc, .int .i64 0], .slice (some ⟨lb, lof, none⟩) aK lc, .int .i64 0, .int .i64 0, .bool false, u28, u29, u30, u31, u32, u33, u34, u35, u36, u37, u38, u39, u40, u41, u42, u43, u44, u45, u46, u47, u48, u49, u50, u51, u52, u53, u54, u55, u56, u57, u58, u59, u60, u61, u62, u63, u64, u65, u66, u67, u68, u69, u70, u71, u72, u73, u74, u75, u76, u77, u78, u79, u80, u81, u82, u83, u84, u85, u86, u87, u88, u89, u90, u91, u92, u93, u94, u95, u96, u97, u98, u99, u100, u101, u102, u103, u104, u105, u106, u107, u108, u109, u110, u111, u112, u113, u114, u115, u116, u117, u118, u119, u120, u121, u122, u123, u124, u125, u126, u127, u128, u129, u130, u131, u132, u133, u134, u135, u136, u137, u138, u139, u140, u141, u142, u143, u144, u145, u146, u147, u148, u149, u150, u151, u152, u153, u154, u155, u156, u157, u158, u159, u160, u161, u162, u163, u164, u165, u166, u167, u168, u169, u170, u171, u172, u173, u174, u175, u176, u177, u178, u179, u180, u181, u182, u183, u184, u185, u186, u187, u188, u189, u190, vv 0, vv 1, vv 2, vv 3, vv 4, vv 5, vv 6, vv 7, vv 8, vv 9, vv 10, u202, u203, u204, u205, u206, u207, u208, u209, u210, u211, u212, u213, undef, undef, undef, undef, undef, undef, undef], []⟩) 12 FL (fun wz vz => ∃ g, vz 11 = .pointer (some ⟨g, 0, none⟩) ∧ DyB HI wz g ∧ Below W6.heap.size W6 wz ∧ W6.heap.size ≤ g) (fun j => match j with | 0 => u191 | 1 => u192 | 2 => u193 | 3 => u194 | 4 => u195 | 5 => u196 | 6 => u197 | 7 => u198 | 8 => u199 | 9 => u200 | 10 => u201 | 11 => u18 | _ => undef) rfl ?_ ?_
         ·intro Lq vv wq i hL hS hD hi
          obtain ⟨hr1, hr2, hr3⟩ := mem_ready hi
          have hr1 : i < 13 := hr1
          try dsimp only
          have hcs : i = 0 ∨ i = 1 ∨ i = 2 ∨ i = 3 ∨ i = 4 ∨ i = 5 ∨ i = 6 ∨ i = 7 ∨ i = 8 ∨ i = 9 ∨ i = 10 ∨ i = 11 ∨ i = 12 := by omega
          clear hr1 hr2 hr3
          have hns := hS.open hL hi
          have hB := hS.a hns
          rcases hcs with rfl | rfl | rfl | rfl | rfl | rfl | rfl | rfl | rfl | rfl | rfl | rfl | rfl
          ·refine wpOpT_of (fun K hK => ?_)
           unfold wpOp
           go_simp
           refine Or.inl ?_
           exact hK _ _ ⟨putT vv 0 (.pointer (some ⟨sb, 8, none⟩)), (by simp [putT]), hS.step hL hi (by decide) (Below.refl _ _) (Lz.toIs F0)⟩
          ·have e0 := Lz.ofIs (hS.f hns 0 (ready_dep hi 0 (by kernel_rfl))) F0
           refine wpOpT_of (fun K hK => ?_)
           unfold wpOp
           simp only [e0]
           go_simp
           refine Or.inl ?_
           exact hK _ _ ⟨putT vv 1 (.pointer (some ⟨sb, 9, none⟩)), (by simp [putT, e0]), hS.step hL hi (by decide) (Below.refl _ _) (Lz.toIs F1)⟩
          ·have e1 := Lz.ofIs (hS.f hns 1 (ready_dep hi 1 (by kernel_rfl))) F1
           have rj := (hB.cell (p := ⟨sb, 9, none⟩) sbl).trans s9'
           refine wpOpT_of (fun K hK => ?_)
           unfold wpOp
           simp only [e1]
           go_simp
           refine Or.inl ?_
           exact hK _ _ ⟨putT vv 2 (.float .f64 sh), (by simp [putT, e1]), hS.step hL hi (by decide) (Below.refl _ _) (Lz.toIs F2)⟩
          ·have e2 := Lz.ofIs (hS.f hns 2 (ready_dep hi 2 (by kernel_rfl))) F2
           refine wpOpT_of (fun K hK => ?_)
           unfold wpOp
           simp only [e2]
           go_simp
           refine Or.inl ?_
           go_at_call 8
           refine (C.eh _).mono ?_
           rintro e w1 ⟨ro, rc, rfl, kr, bc⟩
           exact hK _ _ ⟨putT vv 3 (.agg #[.bool (EH).neg, .slice ro (EH).mag.length rc, .int .i64 (EH).exp]), (by simp [putT, e2]), hS.step hL hi (by decide) (bc) (Lz.toGn F3 (⟨_, _, rfl, kr⟩))⟩
          ·refine wpOpT_of (fun K hK => ?_)
           unfold wpOp
           go_simp
           refine Or.inl ?_
           exact hK _ _ ⟨putT vv 4 (.pointer (some ⟨sb, 8, none⟩)), (by simp [putT]), hS.step hL hi (by decide) (Below.refl _ _) (Lz.toIs F4)⟩
          ·have e4 := Lz.ofIs (hS.f hns 4 (ready_dep hi 4 (by kernel_rfl))) F4
           refine wpOpT_of (fun K hK => ?_)
           unfold wpOp
           simp only [e4]
           go_simp
           refine Or.inl ?_
           exact hK _ _ ⟨putT vv 5 (.pointer (some ⟨sb, 9, none⟩)), (by simp [putT, e4]), hS.step hL hi (by decide) (Below.refl _ _) (Lz.toIs F5)⟩
          ·have e5 := Lz.ofIs (hS.f hns 5 (ready_dep hi 5 (by kernel_rfl))) F5
           have rj := (hB.cell (p := ⟨sb, 9, none⟩) sbl).trans s9'
           refine wpOpT_of (fun K hK => ?_)
           unfold wpOp
           simp only [e5]
           go_simp
           refine Or.inl ?_
           exact hK _ _ ⟨putT vv 6 (.float .f64 sh), (by simp [putT, e5]), hS.step hL hi (by decide) (Below.refl _ _) (Lz.toIs F6)⟩
          ·have e6 := Lz.ofIs (hS.f hns 6 (ready_dep hi 6 (by kernel_rfl))) F6
           refine wpOpT_of (fun K hK => ?_)
           unfold wpOp
           simp only [e6]
           go_simp
           refine Or.inl ?_
           go_at_call 8
           refine (C.eh _).mono ?_
           rintro e w1 ⟨ro, rc, rfl, kr, bc⟩
           exact hK _ _ ⟨putT vv 7 (.agg #[.bool (EH).neg, .slice ro (EH).mag.length rc, .int .i64 (EH).exp]), (by simp [putT, e6]), hS.step hL hi (by decide) (bc) (Lz.toGn F7 (⟨_, _, rfl, kr⟩))⟩
          ·obtain ⟨pa, pc, PD, PN⟩ := UB.below hB
           obtain ⟨p0, p1, p2, _, _, _, _, _⟩ := id PD
           refine wpOpT_of (fun K hK => ?_)
           unfold wpOp
           go_simp
           refine Or.inl ?_
           exact hK _ _ ⟨putT vv 8 (.agg #[.bool (UN).neg, .slice pa (UN).mag.length pc, .int .i64 (UN).exp]), (by simp [putT]), hS.step hL hi (by decide) (Below.refl _ _) (Lz.toGn F8 (⟨_, _, rfl, PN⟩))⟩
          ·obtain ⟨ao_3, ac_3, e3, u3⟩ := Lz.ofGn (hS.f hns 3 (ready_dep hi 3 (by kernel_rfl))) F3
           obtain ⟨ao_7, ac_7, e7, u7⟩ := Lz.ofGn (hS.f hns 7 (ready_dep hi 7 (by kernel_rfl))) F7
           obtain ⟨ao_8, ac_8, e8, u8⟩ := Lz.ofGn (hS.f hns 8 (ready_dep hi 8 (by kernel_rfl))) F8
           refine wpOpT_of (fun K hK => ?_)
           unfold wpOp
           simp only [e3, e7, e8]
           go_simp
           refine Or.inl ?_
           exact hK _ _ ⟨putT vv 9 (.slice (some ⟨wq.heap.size, 0, none⟩) 3 3), (by simp [putT, e3, e7, e8]), hS.step hL hi (by decide) ((Below.refl _ _).alloc (Nat.le_refl _) _) (Lz.toGn F9 (⟨_, rfl, drow_three _ u3 u7 u8⟩))⟩
          ·obtain ⟨b_9, e9, u9⟩ := Lz.ofGn (hS.f hns 9 (ready_dep hi 9 (by kernel_rfl))) F9
           refine wpOpT_of (fun K hK => ?_)
           unfold wpOp
           simp only [e9]
           go_simp
           refine Or.inl ?_
           go_at_call 7
           refine (C.th _ _ u9).mono ?_
           rintro e w1 ⟨ro, rc, rfl, kr, bc⟩
           exact hK _ _ ⟨putT vv 10 (.agg #[.bool (HI).neg, .slice ro (HI).mag.length rc, .int .i64 (HI).exp]), (by simp [putT, e9]), hS.step hL hi (by decide) (bc) (Lz.toGn F10 (⟨_, _, rfl, kr⟩))⟩
          ·refine wpOpT_of (fun K hK => ?_)
           unfold wpOp
           go_simp
           refine Or.inl ?_
           exact hK _ _ ⟨putT vv 11 (.pointer (some ⟨wq.heap.size, 0, none⟩)), (by simp [putT]), hS.step hL hi (by decide) ((Below.refl _ _).alloc (Nat.le_refl _) _) (Lz.toGn F11 (⟨_, rfl, DyB.new wq _, hB.size⟩))⟩
          ·obtain ⟨ao_10, ac_10, e10, u10⟩ := Lz.ofGn (hS.f hns 10 (ready_dep hi 10 (by kernel_rfl))) F10
           obtain ⟨g11, e11, u11, t11⟩ := Lz.ofGn (hS.f hns 11 (ready_dep hi 11 (by kernel_rfl))) F11
           obtain ⟨qa, qc, QB, QN⟩ := id u11
           obtain ⟨p0, p1, p2, f0, f1, f2, _, _⟩ := id QB
           refine wpOpT_of (fun K hK => ?_)
           unfold wpOp
           simp only [e10, e11]
           go_simp
           refine Or.inl ?_
           exact hK _ _ ⟨putT vv 12 undef, (by simp [putT, e10, e11]), hS.last hL hi (allY hD hi (by kernel_rfl)) (⟨g11, by simp [putT, e11], u11.fill u10, below_set3 hB t11 _ _ _, t11⟩)⟩
         ·intro Lq vv wq hL hS hr
          have on := all_done hL hr (by kernel_rfl)
          obtain ⟨g, hq, GB, bq, gl⟩ := hS.z (on 12 (by decide))
          try dsimp only
          rw [hq]
          go_wp2_with fail
          go_meet
          exact ⟨g, rfl, GB, bq, gl⟩
        obtain ⟨hg, rfl, HB, bq, hgl⟩ := hcut
        replace LB := LB.below bq
        replace OB := OB.below bq
        replace bk4 := bk4.trans (bq.mono bk4.size)
        clear s0 s1 s2 s3 s4 s5 s6 s7 s8' s9' s10 sbl bq hgl S14 UB
        generalize wc = W7 at *
        obtain ⟨la, lc, LD, LN⟩ := id LB
        obtain ⟨oa, oc, OD, ON⟩ := id OB
        obtain ⟨ha, hc, HD, HN⟩ := id HB
        obtain ⟨l0, l1, l2', _, _, _, _, _⟩ := id LD
        obtain ⟨o0, o1, o2, _, _, _, _, _⟩ := id OD
        obtain ⟨h0, h1, h2', _, _, _, _, _⟩ := id HD
        have n1 := C.n1
        have n2 := C.n2
        have c1 := C.c1
        have c2 := C.c2
        clear C LB OB HB
        go_upto_region 29 with fail
        go_upto_region 31 with (first
         | (go_at_call_of 9 (Value.agg #[Value.bool LO.neg, Value.slice la LO.mag.length lc, Value.int IntKind.i64 LO.exp]); refine (c1 _ _ _ _ _ LN ON).mono ?_; rintro e w8 ⟨rfl, b8⟩; have O8 := OD.below b8; have H8 := HD.below b8; obtain ⟨o0', o1', o2', _, _, _, _, _⟩ := id O8; obtain ⟨h0', h1', h2'', _, _, _, _, _⟩ := id H8)
         | (go_at_call_of 9 (Value.agg #[Value.bool OV.neg, Value.slice oa OV.mag.length oc, Value.int IntKind.i64 OV.exp]); refine (c2 _ _ _ _ _ (ON.below b8) (HN.below b8)).mono ?_; rintro e w9 ⟨rfl, b9⟩))
        have b89 := b8.trans (b9.mono b8.size)
        go_wp2
        go_roundg (nn - (k + 1))
        case measure => rw [HG2.out]; omega
        case rel => exact ⟨k + 1, t + 1, by omega, rfl, by go_num, by rw [HTt.out]; omega, by go_num, bk4.trans (b89.mono bk4.size)⟩
      ·obtain rfl : k = nn := by omega
       have k4 : ¬ (k : Int) < (k : Int) := by omega
       go_wp2
       go_roundg (K - (i + 1))
       case measure => rw [HG.out]; omega
       case rel => exact ⟨i + 1, by omega, rfl, by go_num, congrArg (Value.int .i64) (by rw [HA1.out, HTt.out]), b2c.trans (bk.mono b2c.size)⟩
  ·have i1 : ¬ (i : Int) < (K : Int) := by omega
   obtain rfl : i = K := by omega
   rw [HaK.out]
   go_wp2_with (go_at_call 10; refine (cAw _ hbi).mono ?_; rintro e w7 ⟨rfl, b7⟩)
   go_ret
   exact ⟨rfl, hbi.trans (b7.mono hbi.size)⟩
end Go.Proofs.YtfipmopmpacdaaaGreatDoor
