/- SumsNear: the sum in order differs from the exact one by the bound at most, and so does the one by halves. -/
import Derived.Test.YtemkcachndfncaaDoorX1
import Derived.Test.YtemkcachndfncaaDoorBs
import Derived.Test.YtemkcachndfncaaDoorMop
import Derived.Test.YtemkcachndfncaaDoorL2
import Derived.Test.YtemkcachndfncaaDoorZ8
import Derived.Test.YtemkcachndfncaaDoorEl
namespace Go.Proofs.YtemkcachndfncaaDoor
open Go.RowKit

/-- The limbs lie behind two boxes. -/
def Nob (Q : Nat) (D : Dy) (a : Option Addr) : Prop := ∀ b off, a = some ⟨b, off, none⟩ → D.mag.length ≠ 0 → Q + 1 < b
theorem nob_frs {Q B : Nat} {D : Dy} {a : Option Addr} (h : Frs B a) (hB : Q + 1 < B) : Nob Q D a := fun b off e _ => by
  have := h _ e
  simp only at this
  omega
/-- What lies in memory on the way. -/
structure SumS (w wr : World) (D Z : Dy) (a : Option Addr) (c : Nat) (b : Option Addr) (d Q : Nat) : Prop where
  bel : Below w.heap.size w wr
  h2 : Hd wr w.heap.size dy0 none 0
  z2 : Fzr wr w.heap.size
  h3 : Hd wr (w.heap.size + 1) dy0 none 0
  z3 : Fzr wr (w.heap.size + 1)
  h5 : Hd wr Q D a c
  z5 : Fzr wr Q
  h6 : Hd wr (Q + 1) Z b d
  z6 : Fzr wr (Q + 1)
  n5 : Nob Q D a
  n6 : Nob Q Z b
  lt : w.heap.size + 1 < Q
theorem SumS.top {w wr : World} {D Z : Dy} {a : Option Addr} {c : Nat} {b : Option Addr} {d Q : Nat} (h : SumS w wr D Z a c b d Q) : Q + 1 < wr.heap.size := World.block_lt_of_cell? wr _ h.h6.c0
theorem SumS.below {w wr w2 : World} {D Z : Dy} {a : Option Addr} {c : Nat} {b : Option Addr} {d Q : Nat} (h : SumS w wr D Z a c b d Q) (hb : Below wr.heap.size wr w2) : SumS w w2 D Z a c b d Q := by
  have l := h.top
  have m := h.lt
  exact ⟨h.bel.trans (hb.mono h.bel.size), h.h2.below hb, h.z2.below (by omega) hb, h.h3.below hb, h.z3.below (by omega) hb, h.h5.below hb, h.z5.below (by omega) hb, h.h6.below hb, h.z6.below l hb, h.n5, h.n6, m⟩
theorem SumS.put5 {w wr : World} {D Z E : Dy} {a a' : Option Addr} {c c' : Nat} {b : Option Addr} {d Q : Nat} (h : SumS w wr D Z a c b d Q) (hr : LRow wr a' E.mag) (hn : Nob Q E a') :
    SumS w (((wr.setCell ⟨Q, 0, none⟩ (.bool E.neg)).setCell ⟨Q, 1, none⟩ (.slice a' E.mag.length c')).setCell ⟨Q, 2, none⟩ (.int .i64 E.exp)) E Z a' c' b d Q := by
  have m := h.lt
  have f6 : ∀ b' off, b = some ⟨b', off, none⟩ → Z.mag.length ≠ 0 → b' ≠ Q := fun b' off e l => by have := h.n6 b' off e l; omega
  exact ⟨((h.bel.setCell (p := ⟨Q, 0, none⟩) (by show w.heap.size ≤ Q; omega) _).setCell (p := ⟨Q, 1, none⟩) (by show w.heap.size ≤ Q; omega) _).setCell (p := ⟨Q, 2, none⟩) (by show w.heap.size ≤ Q; omega) _,
    h.h2.oth (by omega) _ _ _ (Or.inl rfl), h.z2.set _ _ _ _, h.h3.oth (by omega) _ _ _ (Or.inl rfl), h.z3.set _ _ _ _,
    put3n h.h5 hr (fun b' off e l => by have := hn b' off e l; omega), h.z5.set _ _ _ _,
    h.h6.oth (by omega) _ _ _ (((h.h6.row.setCell _ f6).setCell _ f6).setCell _ f6), h.z6.set _ _ _ _, hn, h.n6, m⟩
theorem SumS.put6 {w wr : World} {D Z E : Dy} {a b' : Option Addr} {c d' : Nat} {b : Option Addr} {d Q : Nat} (h : SumS w wr D Z a c b d Q) (hr : LRow wr b' E.mag) (hn : Nob Q E b') :
    SumS w (((wr.setCell ⟨Q + 1, 0, none⟩ (.bool E.neg)).setCell ⟨Q + 1, 1, none⟩ (.slice b' E.mag.length d')).setCell ⟨Q + 1, 2, none⟩ (.int .i64 E.exp)) D E a c b' d' Q := by
  have m := h.lt
  have f5 : ∀ b' off, a = some ⟨b', off, none⟩ → D.mag.length ≠ 0 → b' ≠ Q + 1 := fun b' off e l => by have := h.n5 b' off e l; omega
  exact ⟨((h.bel.setCell (p := ⟨Q + 1, 0, none⟩) (by show w.heap.size ≤ Q + 1; omega) _).setCell (p := ⟨Q + 1, 1, none⟩) (by show w.heap.size ≤ Q + 1; omega) _).setCell (p := ⟨Q + 1, 2, none⟩) (by show w.heap.size ≤ Q + 1; omega) _,
    h.h2.oth (by omega) _ _ _ (Or.inl rfl), h.z2.set _ _ _ _, h.h3.oth (by omega) _ _ _ (Or.inl rfl), h.z3.set _ _ _ _,
    h.h5.oth (by omega) _ _ _ (((h.h5.row.setCell _ f5).setCell _ f5).setCell _ f5), h.z5.set _ _ _ _,
    put3n h.h6 hr (fun b' off e l => by have := hn b' off e l; omega), h.z6.set _ _ _ _, h.n5, hn, m⟩
/-- What sum of the laws hands back of finite floats. -/
def GaveSum (w : World) (D Z : Dy) (e : Ending) (w' : World) : Prop :=
  ∃ a c b d, e = .returned (.tuple #[.agg #[.bool D.neg, .slice a D.mag.length c, .int .i64 D.exp], .agg #[.bool Z.neg, .slice b Z.mag.length d, .int .i64 Z.exp], .bool true]) ∧ LRow w' a D.mag ∧ LRow w' b Z.mag ∧ Below w.heap.size w w'
theorem int_zero : intD 0 = dy0 := by kernel_rfl
/-- The beginning: four boxes. -/
theorem SumS.new {w w1 : World} {a b : Option Addr} {c d : Nat} (hb : Below ((w.alloc (.cells #[.bool false, .slice none 0 0, .int .i64 0] 31)).alloc (.cells #[.bool false, .slice none 0 0, .int .i64 0] 31)).heap.size ((w.alloc (.cells #[.bool false, .slice none 0 0, .int .i64 0] 31)).alloc (.cells #[.bool false, .slice none 0 0, .int .i64 0] 31)) w1) :
    SumS w ((w1.alloc (.cells #[.bool false, .slice a 0 c, .int .i64 0] 31)).alloc (.cells #[.bool false, .slice b 0 d, .int .i64 0] 31)) dy0 dy0 a c b d w1.heap.size := by
  have s2 : ((w.alloc (.cells #[.bool false, .slice none 0 0, .int .i64 0] 31)).alloc (.cells #[.bool false, .slice none 0 0, .int .i64 0] 31)).heap.size = w.heap.size + 2 := by go_simp
  have hs := hb.size
  rw [s2] at hs
  have a1 := (Hd.new (w := w) (d := dy0) (ao := none) (cap := 0) (Or.inl rfl)).below (bal _ (.cells #[.bool false, .slice none 0 0, .int .i64 0] 31))
  have a2 := Hd.new (w := w.alloc (.cells #[.bool false, .slice none 0 0, .int .i64 0] 31)) (d := dy0) (ao := none) (cap := 0) (Or.inl rfl)
  have b1 := (fz_new w (.bool false) (.slice none 0 0) (.int .i64 0)).below (by simp) (bal _ (.cells #[.bool false, .slice none 0 0, .int .i64 0] 31))
  have b2 := fz_new (w.alloc (.cells #[.bool false, .slice none 0 0, .int .i64 0] 31)) (.bool false) (.slice none 0 0) (.int .i64 0)
  have e1 : (w.alloc (.cells #[.bool false, .slice none 0 0, .int .i64 0] 31)).heap.size = w.heap.size + 1 := by go_simp
  rw [e1] at a2 b2
  have a5 := (Hd.new (w := w1) (d := dy0) (ao := a) (cap := c) (Or.inl rfl)).below (bal _ (.cells #[.bool false, .slice b 0 d, .int .i64 0] 31))
  have a6 := Hd.new (w := w1.alloc (.cells #[.bool false, .slice a 0 c, .int .i64 0] 31)) (d := dy0) (ao := b) (cap := d) (Or.inl rfl)
  have b5 := (fz_new w1 (.bool false) (.slice a 0 c) (.int .i64 0)).below (by simp) (bal _ (.cells #[.bool false, .slice b 0 d, .int .i64 0] 31))
  have b6 := fz_new (w1.alloc (.cells #[.bool false, .slice a 0 c, .int .i64 0] 31)) (.bool false) (.slice b 0 d) (.int .i64 0)
  have e2 : (w1.alloc (.cells #[.bool false, .slice a 0 c, .int .i64 0] 31)).heap.size = w1.heap.size + 1 := by go_simp
  rw [e2] at a6 b6
  have B0 : Below w.heap.size w w1 := (bth3 (bal w _) (bal _ _)).trans (hb.mono (by omega))
  have BB := bth3 (bal w1 (.cells #[.bool false, .slice a 0 c, .int .i64 0] 31)) (bal _ (.cells #[.bool false, .slice b 0 d, .int .i64 0] 31))
  exact ⟨bth3 B0 BB, (a1.below hb).below BB, (b1.below (by omega) hb).below (by omega) BB, (a2.below hb).below BB, (b2.below (by omega) hb).below (by omega) BB, a5, b5, a6, b6, fun _ _ _ h => absurd rfl h, fun _ _ _ h => absurd rfl h, by omega⟩
set_option maxRecDepth 100000 in
set_option maxHeartbeats 8000000 in
theorem lsum_core (xs : List Nat) (ao : Option Addr) (cap : Nat) (Dx Dz T U : Nat → Dy) (w : World) (hT : TabW w) (hr : GRow w ao xs) (hF : FW xs) (hn : xs.length ≤ 1125899906842624)
    (hO : ∀ k, k < xs.length → ofD (xs.getD k 0) = (Dx k, 0) ∧ Lm (Dx k).mag ∧ ofD (rung (xs.getD k 0)) = (Dz k, 0) ∧ Lm (Dz k).mag) (hT0 : T 0 = dy0) (hU0 : U 0 = dy0)
    (hA : ∀ k, k < xs.length → addD (T k) (Dx k) = (T (k + 1), 0) ∧ addD (U k) (Dz k) = (U (k + 1), 0)) (hL : ∀ k, k ≤ xs.length → Lm (T k).mag ∧ Lm (U k).mag) :
    Calls Tryd.prog 10 #[.slice ao xs.length cap] w (GaveSum w (T xs.length) (U xs.length)) := by
  have oi := fun W h => Int_any 0 (by decide) (by decide) W h
  rw [int_zero] at oi
  go_enter Tryd.func10, Tryd.ntmps10
  go_upto_region 2 with (first
    | (go_at_call 30; refine (oi _ hT1).mono ?_; rintro e w2 ⟨a2, c2, rfl, _, _, x2⟩)
    | (go_at_call 30; refine (oi _ (tabW_alloc (tabW_alloc hT _) _)).mono ?_; rintro e w1 ⟨a1, c1, rfl, _, _, x1⟩; have hT1 := tabW_below (tabW_alloc (tabW_alloc hT _) _) x1))
  have S0 : SumS w ((w2.alloc (.cells #[.bool dy0.neg, .slice a1 dy0.mag.length c1, .int .i64 dy0.exp] 31)).alloc (.cells #[.bool dy0.neg, .slice a2 dy0.mag.length c2, .int .i64 dy0.exp] 31)) dy0 dy0 a1 c1 a2 c2 w2.heap.size := SumS.new (a := a1) (c := c1) (b := a2) (d := c2) (bth3 x1 x2)
  clear x1 x2 hT1 oi
  generalize (w2.alloc (.cells #[.bool dy0.neg, .slice a1 dy0.mag.length c1, .int .i64 dy0.exp] 31)).alloc (.cells #[.bool dy0.neg, .slice a2 dy0.mag.length c2, .int .i64 dy0.exp] 31) = W0 at *
  generalize w2.heap.size = Q at *
  go_wp2
  go_loopg [7] xs.length (fun g i wr => ∃ k : Nat, ∃ a c b d, k ≤ xs.length ∧ g = xs.length - k ∧ i = .int .i64 k ∧ Hid (SumS w wr (T k) (U k) a c b d Q))
  case atStart => exact ⟨0, a1, c1, a2, c2, Nat.zero_le _, rfl, rfl, by rw [hT0, hU0]; exact S0⟩
  case round =>
    obtain ⟨k, a, c, b, d, hk, hg, rfl, hS⟩ := hrel
    have HG : Hid (gk = xs.length - k) := hg
    clear hg S0
    by_cases hlt : k < xs.length
    · have S0 := hS.out
      rcases hr.below S0.bel with h | ⟨bx, off, rfl, hc⟩
      · omega
      · have T0 := tabW_below hT S0.bel
        have g1 := hc k hlt
        have gB := World.block_lt_of_cell? wr _ g1
        have hx := hF.at hlt
        obtain ⟨o1, o2, o3, o4⟩ := hO k hlt
        obtain ⟨q1, q2⟩ := hA k hlt
        obtain ⟨q3, q4⟩ := hL k hk
        have i1 : (k : Int) < (xs.length : Int) := by omega
        generalize xs.getD k 0 = x at *
        have ox := fun W h => Of_any x hx W h
        have oy := fun W h => Of_any (rung x) (Nat.lt_of_lt_of_le (rung_lt x) (by decide)) W h
        have ob := abs_any x hx
        rw [o1] at ox
        rw [o3] at oy
        have oa := fun ao bo cap bcap w h1 h2 h3 => Add_any (T k) (Dx k) ao bo cap bcap w h1 h2 q3 o2 h3
        have oc := fun ao bo cap bcap w h1 h2 h3 => Add_any (U k) (Dz k) ao bo cap bcap w h1 h2 q4 o4 h3
        rw [q1] at oa
        rw [q2] at oc
        clear hc hO hA hL hF o1 o3 q1 q2
        generalize Dx k = X at *
        generalize Dz k = Y at *
        generalize T k = D at *
        generalize U k = Z at *
        obtain ⟨D', hD'⟩ : ∃ D', T (k + 1) = D' := ⟨_, rfl⟩
        obtain ⟨Z', hZ'⟩ : ∃ Z', U (k + 1) = Z' := ⟨_, rfl⟩
        rw [hD'] at oa
        rw [hZ'] at oc
        have HDZ : Hid (T (k + 1) = D' ∧ U (k + 1) = Z') := ⟨hD', hZ'⟩
        clear hD' hZ'
        go_upto_region 6 with (go_at_call 16; refine (ox _ T0).mono ?_; rintro e w3 ⟨ax, cx, rfl, rx, fx, b3⟩)
        obtain ⟨V1, hV1⟩ : ∃ V, w3.alloc (.cells #[.bool X.neg, .slice ax X.mag.length cx, .int .i64 X.exp] 31) = V := ⟨_, rfl⟩
        have B1 : Below wr.heap.size wr V1 := by rw [← hV1]; exact bth3 b3 (bal _ _)
        have HX : Hd V1 w3.heap.size X ax cx := by rw [← hV1]; exact Hd.new rx
        rw [hV1]
        clear hV1 rx fx b3 ox
        have S1 := S0.below B1
        have T1 := tabW_below T0 B1
        have g2 : V1.cell? ⟨bx, off + k, none⟩ = some (.float .f64 x) := by rw [B1.cell gB]; exact g1
        clear S0 T0 g1 gB B1
        generalize w3.heap.size = PX at *
        go_upto_region 7 with (first
          | (go_at_call 14; refine (ob _).mono ?_; rintro e w' ⟨rfl, hw'⟩; subst w')
          | (go_at_call 16; refine (oy _ T1).mono ?_; rintro e w4 ⟨ay, cy, rfl, ry, fy, b4⟩))
        obtain ⟨V2, hV2⟩ : ∃ V, w4.alloc (.cells #[.bool Y.neg, .slice ay Y.mag.length cy, .int .i64 Y.exp] 31) = V := ⟨_, rfl⟩
        have B2 : Below V1.heap.size V1 V2 := by rw [← hV2]; exact bth3 b4 (bal _ _)
        have HY : Hd V2 w4.heap.size Y ay cy := by rw [← hV2]; exact Hd.new ry
        rw [hV2]
        have lY : Q + 1 < w4.heap.size := Nat.lt_of_lt_of_le S1.top b4.size
        have nY : Nob Q Y ay := nob_frs fy S1.top
        clear hV2 ry fy b4 oy ob
        have S2 := S1.below B2
        have T2 := tabW_below T1 B2
        replace HX := HX.below B2
        clear S1 T1 g2 B2
        generalize w4.heap.size = PY at *
        obtain ⟨p0, p1, p2, pr⟩ := id S2.h5
        obtain ⟨x0, x1, x2, xr⟩ := id HX
        have tp := S2.top
        go_upto_region 10 with (go_at_call 32; refine (oa _ _ _ _ _ pr xr T2).mono ?_; rintro e w5 ⟨ae, ce, rfl, re, fe, b5⟩; have S3 := S2.below b5; obtain ⟨p0, p1, p2, _⟩ := id S3.h5; obtain ⟨f0, f1, f2⟩ := id S3.z5)
        have S4 := S3.put5 (c' := ce) re (nob_frs fe tp)
        replace HY := HY.below b5
        have fq : ∀ b' off, ay = some ⟨b', off, none⟩ → Y.mag.length ≠ 0 → b' ≠ Q := fun b' off e l => by have := nY b' off e l; omega
        have HY4 := HY.oth (q := Q) (by omega) (.bool D'.neg) (.slice ae D'.mag.length ce) (.int .i64 D'.exp) (((HY.row.setCell _ fq).setCell _ fq).setCell _ fq)
        generalize ((w5.setCell ⟨Q, 0, none⟩ (.bool D'.neg)).setCell ⟨Q, 1, none⟩ (.slice ae D'.mag.length ce)).setCell ⟨Q, 2, none⟩ (.int .i64 D'.exp) = V3 at *
        have T4 := tabW_below hT S4.bel
        have tp4 := S4.top
        clear p0 p1 p2 pr x0 x1 x2 xr f0 f1 f2 S2 S3 T2 b5 HX HY fq re fe oa tp
        obtain ⟨p0, p1, p2, pr⟩ := id S4.h6
        obtain ⟨x0, x1, x2, xr⟩ := id HY4
        go_upto_region 11 with (go_at_call 32; refine (oc _ _ _ _ _ pr xr T4).mono ?_; rintro e w6 ⟨ag, cg, rfl, rg, fg, b6⟩; have S5 := S4.below b6; obtain ⟨p0, p1, p2, _⟩ := id S5.h6; obtain ⟨f0, f1, f2⟩ := id S5.z6)
        have S6 := S5.put6 (d' := cg) rg (nob_frs fg tp4)
        generalize ((w6.setCell ⟨Q + 1, 0, none⟩ (.bool Z'.neg)).setCell ⟨Q + 1, 1, none⟩ (.slice ag Z'.mag.length cg)).setCell ⟨Q + 1, 2, none⟩ (.int .i64 Z'.exp) = V4 at *
        clear p0 p1 p2 pr x0 x1 x2 xr f0 f1 f2 S4 S5 T4 b6 HY4 rg fg oc tp4 hT
        go_wp2
        go_roundg (xs.length - (k + 1))
        case measure => rw [HG.out]; omega
        case rel => exact ⟨k + 1, _, _, _, _, by omega, rfl, by go_num, by rw [HDZ.out.1, HDZ.out.2]; exact S6⟩
    · have ek : k = xs.length := by omega
      subst ek
      have S0 := hS.out
      have i1 : ¬ (xs.length : Int) < (xs.length : Int) := by omega
      clear hO hA hL hF hS
      obtain ⟨p0, p1, p2, pr⟩ := id S0.h5
      obtain ⟨x0, x1, x2, xr⟩ := id S0.h6
      obtain ⟨s0, s1, s2, _⟩ := id S0.h2
      obtain ⟨t0, t1, t2, _⟩ := id S0.h3
      obtain ⟨f0, f1, f2⟩ := id S0.z2
      obtain ⟨e0, e1, e2⟩ := id S0.z3
      have l1 := S0.lt
      have m1 : ¬ w.heap.size = w.heap.size + 1 := by omega
      have m2 : ¬ w.heap.size + 1 = w.heap.size := by omega
      have m3 : ¬ w.heap.size = Q := by omega
      have m4 : ¬ w.heap.size + 1 = Q := by omega
      have m5 : ¬ w.heap.size = Q + 1 := by omega
      have m6 : ¬ w.heap.size + 1 = Q + 1 := by omega
      have m7 : ¬ Q = w.heap.size := by omega
      have m8 : ¬ Q = w.heap.size + 1 := by omega
      have m9 : ¬ Q + 1 = w.heap.size := by omega
      have m0 : ¬ Q + 1 = w.heap.size + 1 := by omega
      generalize T xs.length = D at *
      generalize U xs.length = Z at *
      go_upto_region 13 with fail
      go_region
      all_goals
        go_wp2
        refine bodyPost_ret (v := .tuple #[.agg #[.bool D.neg, .slice a D.mag.length c, .int .i64 D.exp], .agg #[.bool Z.neg, .slice b Z.mag.length d, .int .i64 Z.exp], .bool true]) (by simp [results, Tryd.results10, go_sem, s0, s1, s2, t0, t1, t2]) rfl ⟨_, _, _, _, rfl, ?_, ?_, ?_⟩
        · have fa : ∀ b' off, a = some ⟨b', off, none⟩ → D.mag.length ≠ 0 → b' ≠ w.heap.size := fun b' off e l => by have := S0.n5 b' off e l; omega
          have fb : ∀ b' off, a = some ⟨b', off, none⟩ → D.mag.length ≠ 0 → b' ≠ w.heap.size + 1 := fun b' off e l => by have := S0.n5 b' off e l; omega
          refine LRow.below ?_ (Below.refl _ _).drew
          exact (((((pr.setCell _ fa).setCell _ fa).setCell _ fa).setCell _ fb).setCell _ fb).setCell _ fb
        · have fa : ∀ b' off, b = some ⟨b', off, none⟩ → Z.mag.length ≠ 0 → b' ≠ w.heap.size := fun b' off e l => by have := S0.n6 b' off e l; omega
          have fb : ∀ b' off, b = some ⟨b', off, none⟩ → Z.mag.length ≠ 0 → b' ≠ w.heap.size + 1 := fun b' off e l => by have := S0.n6 b' off e l; omega
          refine LRow.below ?_ (Below.refl _ _).drew
          exact (((((xr.setCell _ fa).setCell _ fa).setCell _ fa).setCell _ fb).setCell _ fb).setCell _ fb
        · have h0 : ∀ i, w.heap.size ≤ (⟨w.heap.size, i, none⟩ : Addr).block := fun _ => Nat.le_refl _
          have h1 : ∀ i, w.heap.size ≤ (⟨w.heap.size + 1, i, none⟩ : Addr).block := fun _ => Nat.le_succ _
          refine Below.drew ?_
          exact ((((((S0.bel.setCell (h0 0) _).setCell (h0 1) _).setCell (h0 2) _).setCell (h1 0) _).setCell (h1 1) _).setCell (h1 2) _)
theorem sizes_fin {xs : List Nat} (h : xs.all finB = true) : (xs.map rung).all finB = true := by
  rw [List.all_eq_true] at h ⊢
  intro y hy
  obtain ⟨x, hx, rfl⟩ := List.mem_map.1 hy
  have := fin_rung (h x hx)
  unfold finB
  rw [rung_small (rung_lt x)]
  exact decide_eq_true this
theorem sizes_at {xs : List Nat} {k : Nat} (hk : k < xs.length) : (xs.map rung).getD k 0 = rung (xs.getD k 0) := by
  simp [List.getD_eq_getElem?_getD, hk]
theorem lsum_fin (xs : List Nat) (ao : Option Addr) (cap : Nat) (w : World) (hT : TabW w) (hr : GRow w ao xs) (hF : FW xs) (hn : xs.length ≤ 1125899906842624) (hf : xs.all finB = true) :
    Calls Tryd.prog 10 #[.slice ao xs.length cap] w (GaveSum w (sD xs xs.length) (sD (xs.map rung) xs.length)) := by
  have hz := sizes_fin hf
  have hl : (xs.map rung).length = xs.length := List.length_map _
  refine lsum_core xs ao cap (fun k => (ofD (xs.getD k 0)).1) (fun k => (ofD (rung (xs.getD k 0))).1) (sD xs) (sD (xs.map rung)) w hT hr hF hn (fun k hk => ?_) (by unfold sD sI nrm; rw [if_pos rfl]) (by unfold sD sI nrm; rw [if_pos rfl]) (fun k hk => ⟨sD_add hf hn hk, ?_⟩) (fun k _ => ⟨nrm_lm _ _, nrm_lm _ _⟩)
  · obtain ⟨b1, _, b3, _⟩ := fq_qd (fin_at hf hk) (K := 64462) rfl
    obtain ⟨d1, _, d3, _⟩ := fq_qd (fin_at hz (by rw [hl]; exact hk)) (K := 64462) rfl
    rw [sizes_at hk] at d1 d3
    exact ⟨by rw [← b1], b3, by rw [← d1], d3⟩
  · rw [← sizes_at hk]
    exact sD_add hz (by rw [hl]; exact hn) (by rw [hl]; exact hk)
end Go.Proofs.YtemkcachndfncaaDoor

namespace Go.Proofs.YtemkcachndfncaaDoor
open Go.RowKit

/-- What sum of the laws hands back where a float is not finite. -/
def GaveNo (w : World) (e : Ending) (w' : World) : Prop :=
  ∃ (D : Dy) (a : Option Addr) (c : Nat), e = .returned (.tuple #[.agg #[.bool D.neg, .slice a D.mag.length c, .int .i64 D.exp], .agg #[.bool D.neg, .slice a D.mag.length c, .int .i64 D.exp], .bool false]) ∧ Below w.heap.size w w'
set_option maxRecDepth 100000 in
set_option maxHeartbeats 8000000 in
theorem lsum_stop (xs : List Nat) (ao : Option Addr) (cap K : Nat) (Dx Dz T U : Nat → Dy) (w : World) (hT : TabW w) (hr : GRow w ao xs) (hF : FW xs) (hn : xs.length ≤ 1125899906842624) (hK : K < xs.length)
    (hO : ∀ k, k < K → ofD (xs.getD k 0) = (Dx k, 0) ∧ Lm (Dx k).mag ∧ ofD (rung (xs.getD k 0)) = (Dz k, 0) ∧ Lm (Dz k).mag) (hT0 : T 0 = dy0) (hU0 : U 0 = dy0)
    (hA : ∀ k, k < K → addD (T k) (Dx k) = (T (k + 1), 0) ∧ addD (U k) (Dz k) = (U (k + 1), 0)) (hL : ∀ k, k ≤ K → Lm (T k).mag ∧ Lm (U k).mag) (hno : ofD (xs.getD K 0) = (dy0, 5) ∧ ofD (rung (xs.getD K 0)) = (dy0, 5)) :
    Calls Tryd.prog 10 #[.slice ao xs.length cap] w (GaveNo w) := by
  have oi := fun W h => Int_any 0 (by decide) (by decide) W h
  rw [int_zero] at oi
  go_enter Tryd.func10, Tryd.ntmps10
  go_upto_region 2 with (first
    | (go_at_call 30; refine (oi _ hT1).mono ?_; rintro e w2 ⟨a2, c2, rfl, _, _, x2⟩)
    | (go_at_call 30; refine (oi _ (tabW_alloc (tabW_alloc hT _) _)).mono ?_; rintro e w1 ⟨a1, c1, rfl, _, _, x1⟩; have hT1 := tabW_below (tabW_alloc (tabW_alloc hT _) _) x1))
  have S0 : SumS w ((w2.alloc (.cells #[.bool dy0.neg, .slice a1 dy0.mag.length c1, .int .i64 dy0.exp] 31)).alloc (.cells #[.bool dy0.neg, .slice a2 dy0.mag.length c2, .int .i64 dy0.exp] 31)) dy0 dy0 a1 c1 a2 c2 w2.heap.size := SumS.new (a := a1) (c := c1) (b := a2) (d := c2) (bth3 x1 x2)
  clear x1 x2 hT1 oi
  generalize (w2.alloc (.cells #[.bool dy0.neg, .slice a1 dy0.mag.length c1, .int .i64 dy0.exp] 31)).alloc (.cells #[.bool dy0.neg, .slice a2 dy0.mag.length c2, .int .i64 dy0.exp] 31) = W0 at *
  generalize w2.heap.size = Q at *
  go_wp2
  go_loopg [7] xs.length (fun g i wr => ∃ k : Nat, ∃ a c b d, k ≤ K ∧ g = xs.length - k ∧ i = .int .i64 k ∧ Hid (SumS w wr (T k) (U k) a c b d Q))
  case atStart => exact ⟨0, a1, c1, a2, c2, Nat.zero_le _, rfl, rfl, by rw [hT0, hU0]; exact S0⟩
  case round =>
    obtain ⟨k, a, c, b, d, hk, hg, rfl, hS⟩ := hrel
    have HG : Hid (gk = xs.length - k) := hg
    clear hg S0
    by_cases hlt : k < K
    · have S0 := hS.out
      rcases hr.below S0.bel with h | ⟨bx, off, rfl, hc⟩
      · omega
      · have T0 := tabW_below hT S0.bel
        have hlt2 : k < xs.length := by omega
        have g1 := hc k hlt2
        have gB := World.block_lt_of_cell? wr _ g1
        have hx := hF.at hlt2
        obtain ⟨o1, o2, o3, o4⟩ := hO k hlt
        obtain ⟨q1, q2⟩ := hA k hlt
        obtain ⟨q3, q4⟩ := hL k hk
        have i1 : (k : Int) < (xs.length : Int) := by omega
        generalize xs.getD k 0 = x at *
        have ox := fun W h => Of_any x hx W h
        have oy := fun W h => Of_any (rung x) (Nat.lt_of_lt_of_le (rung_lt x) (by decide)) W h
        have ob := abs_any x hx
        rw [o1] at ox
        rw [o3] at oy
        have oa := fun ao bo cap bcap w h1 h2 h3 => Add_any (T k) (Dx k) ao bo cap bcap w h1 h2 q3 o2 h3
        have oc := fun ao bo cap bcap w h1 h2 h3 => Add_any (U k) (Dz k) ao bo cap bcap w h1 h2 q4 o4 h3
        rw [q1] at oa
        rw [q2] at oc
        clear hc hO hA hL hF o1 o3 q1 q2
        generalize Dx k = X at *
        generalize Dz k = Y at *
        generalize T k = D at *
        generalize U k = Z at *
        obtain ⟨D', hD'⟩ : ∃ D', T (k + 1) = D' := ⟨_, rfl⟩
        obtain ⟨Z', hZ'⟩ : ∃ Z', U (k + 1) = Z' := ⟨_, rfl⟩
        rw [hD'] at oa
        rw [hZ'] at oc
        have HDZ : Hid (T (k + 1) = D' ∧ U (k + 1) = Z') := ⟨hD', hZ'⟩
        clear hD' hZ'
        go_upto_region 6 with (go_at_call 16; refine (ox _ T0).mono ?_; rintro e w3 ⟨ax, cx, rfl, rx, fx, b3⟩)
        obtain ⟨V1, hV1⟩ : ∃ V, w3.alloc (.cells #[.bool X.neg, .slice ax X.mag.length cx, .int .i64 X.exp] 31) = V := ⟨_, rfl⟩
        have B1 : Below wr.heap.size wr V1 := by rw [← hV1]; exact bth3 b3 (bal _ _)
        have HX : Hd V1 w3.heap.size X ax cx := by rw [← hV1]; exact Hd.new rx
        rw [hV1]
        clear hV1 rx fx b3 ox
        have S1 := S0.below B1
        have T1 := tabW_below T0 B1
        have g2 : V1.cell? ⟨bx, off + k, none⟩ = some (.float .f64 x) := by rw [B1.cell gB]; exact g1
        clear S0 T0 g1 gB B1
        generalize w3.heap.size = PX at *
        go_upto_region 7 with (first
          | (go_at_call 14; refine (ob _).mono ?_; rintro e w' ⟨rfl, hw'⟩; subst w')
          | (go_at_call 16; refine (oy _ T1).mono ?_; rintro e w4 ⟨ay, cy, rfl, ry, fy, b4⟩))
        obtain ⟨V2, hV2⟩ : ∃ V, w4.alloc (.cells #[.bool Y.neg, .slice ay Y.mag.length cy, .int .i64 Y.exp] 31) = V := ⟨_, rfl⟩
        have B2 : Below V1.heap.size V1 V2 := by rw [← hV2]; exact bth3 b4 (bal _ _)
        have HY : Hd V2 w4.heap.size Y ay cy := by rw [← hV2]; exact Hd.new ry
        rw [hV2]
        have lY : Q + 1 < w4.heap.size := Nat.lt_of_lt_of_le S1.top b4.size
        have nY : Nob Q Y ay := nob_frs fy S1.top
        clear hV2 ry fy b4 oy ob
        have S2 := S1.below B2
        have T2 := tabW_below T1 B2
        replace HX := HX.below B2
        clear S1 T1 g2 B2
        generalize w4.heap.size = PY at *
        obtain ⟨p0, p1, p2, pr⟩ := id S2.h5
        obtain ⟨x0, x1, x2, xr⟩ := id HX
        have tp := S2.top
        go_upto_region 10 with (go_at_call 32; refine (oa _ _ _ _ _ pr xr T2).mono ?_; rintro e w5 ⟨ae, ce, rfl, re, fe, b5⟩; have S3 := S2.below b5; obtain ⟨p0, p1, p2, _⟩ := id S3.h5; obtain ⟨f0, f1, f2⟩ := id S3.z5)
        have S4 := S3.put5 (c' := ce) re (nob_frs fe tp)
        replace HY := HY.below b5
        have fq : ∀ b' off, ay = some ⟨b', off, none⟩ → Y.mag.length ≠ 0 → b' ≠ Q := fun b' off e l => by have := nY b' off e l; omega
        have HY4 := HY.oth (q := Q) (by omega) (.bool D'.neg) (.slice ae D'.mag.length ce) (.int .i64 D'.exp) (((HY.row.setCell _ fq).setCell _ fq).setCell _ fq)
        generalize ((w5.setCell ⟨Q, 0, none⟩ (.bool D'.neg)).setCell ⟨Q, 1, none⟩ (.slice ae D'.mag.length ce)).setCell ⟨Q, 2, none⟩ (.int .i64 D'.exp) = V3 at *
        have T4 := tabW_below hT S4.bel
        have tp4 := S4.top
        clear p0 p1 p2 pr x0 x1 x2 xr f0 f1 f2 S2 S3 T2 b5 HX HY fq re fe oa tp
        obtain ⟨p0, p1, p2, pr⟩ := id S4.h6
        obtain ⟨x0, x1, x2, xr⟩ := id HY4
        go_upto_region 11 with (go_at_call 32; refine (oc _ _ _ _ _ pr xr T4).mono ?_; rintro e w6 ⟨ag, cg, rfl, rg, fg, b6⟩; have S5 := S4.below b6; obtain ⟨p0, p1, p2, _⟩ := id S5.h6; obtain ⟨f0, f1, f2⟩ := id S5.z6)
        have S6 := S5.put6 (d' := cg) rg (nob_frs fg tp4)
        generalize ((w6.setCell ⟨Q + 1, 0, none⟩ (.bool Z'.neg)).setCell ⟨Q + 1, 1, none⟩ (.slice ag Z'.mag.length cg)).setCell ⟨Q + 1, 2, none⟩ (.int .i64 Z'.exp) = V4 at *
        clear p0 p1 p2 pr x0 x1 x2 xr f0 f1 f2 S4 S5 T4 b6 HY4 rg fg oc tp4 hT
        go_wp2
        go_roundg (xs.length - (k + 1))
        case measure => rw [HG.out]; omega
        case rel => exact ⟨k + 1, _, _, _, _, by omega, rfl, by go_num, by rw [HDZ.out.1, HDZ.out.2]; exact S6⟩
    · have ek : k = K := by omega
      subst ek
      have S0 := hS.out
      rcases hr.below S0.bel with h | ⟨bx, off, rfl, hc⟩
      · omega
      · have T0 := tabW_below hT S0.bel
        have g1 := hc k hK
        have gB := World.block_lt_of_cell? wr _ g1
        have hx := hF.at hK
        obtain ⟨o1, o3⟩ := hno
        have i1 : (k : Int) < (xs.length : Int) := by omega
        generalize xs.getD k 0 = x at *
        have ox := fun W h => Of_any x hx W h
        have oy := fun W h => Of_any (rung x) (Nat.lt_of_lt_of_le (rung_lt x) (by decide)) W h
        have ob := abs_any x hx
        rw [o1] at ox
        rw [o3] at oy
        clear hc hO hA hL hF o1 o3
        generalize T k = D at *
        generalize U k = Z at *
        go_upto_region 6 with (go_at_call 16; refine (ox _ T0).mono ?_; rintro e w3 ⟨ax, cx, rfl, rx, fx, b3⟩)
        obtain ⟨V1, hV1⟩ : ∃ V, w3.alloc (.cells #[.bool dy0.neg, .slice ax dy0.mag.length cx, .int .i64 dy0.exp] 31) = V := ⟨_, rfl⟩
        have B1 : Below wr.heap.size wr V1 := by rw [← hV1]; exact bth3 b3 (bal _ _)
        rw [hV1]
        clear hV1 rx fx b3 ox
        have S1 := S0.below B1
        have T1 := tabW_below T0 B1
        have g2 : V1.cell? ⟨bx, off + k, none⟩ = some (.float .f64 x) := by rw [B1.cell gB]; exact g1
        clear S0 T0 g1 gB B1
        generalize w3.heap.size = PX at *
        go_upto_region 7 with (first
          | (go_at_call 14; refine (ob _).mono ?_; rintro e w' ⟨rfl, hw'⟩; subst w')
          | (go_at_call 16; refine (oy _ T1).mono ?_; rintro e w4 ⟨ay, cy, rfl, ry, fy, b4⟩))
        obtain ⟨V2, hV2⟩ : ∃ V, w4.alloc (.cells #[.bool dy0.neg, .slice ay dy0.mag.length cy, .int .i64 dy0.exp] 31) = V := ⟨_, rfl⟩
        have B2 : Below V1.heap.size V1 V2 := by rw [← hV2]; exact bth3 b4 (bal _ _)
        rw [hV2]
        clear hV2 ry fy b4 oy ob
        have S2 := S1.below B2
        clear S1 T1 g2 B2
        generalize w4.heap.size = PY at *
        obtain ⟨p0, p1, p2, pr⟩ := id S2.h5
        obtain ⟨s0, s1, s2, _⟩ := id S2.h2
        obtain ⟨t0, t1, t2, _⟩ := id S2.h3
        obtain ⟨f0, f1, f2⟩ := id S2.z2
        obtain ⟨e0, e1, e2⟩ := id S2.z3
        have l1 := S2.lt
        have m1 : ¬ w.heap.size = w.heap.size + 1 := by omega
        have m2 : ¬ w.heap.size + 1 = w.heap.size := by omega
        have m3 : ¬ w.heap.size = Q := by omega
        have m4 : ¬ w.heap.size + 1 = Q := by omega
        have m7 : ¬ Q = w.heap.size := by omega
        have m8 : ¬ Q = w.heap.size + 1 := by omega
        go_upto_region 8 with fail
        go_region
        all_goals
          go_wp2
          refine bodyPost_ret (v := .tuple #[.agg #[.bool D.neg, .slice a D.mag.length c, .int .i64 D.exp], .agg #[.bool D.neg, .slice a D.mag.length c, .int .i64 D.exp], .bool false]) (by simp [results, Tryd.results10, go_sem, s0, s1, s2, t0, t1, t2]) rfl ⟨_, _, _, rfl, ?_⟩
          have h0 : ∀ i, w.heap.size ≤ (⟨w.heap.size, i, none⟩ : Addr).block := fun _ => Nat.le_refl _
          have h1 : ∀ i, w.heap.size ≤ (⟨w.heap.size + 1, i, none⟩ : Addr).block := fun _ => Nat.le_succ _
          refine Below.drew ?_
          exact ((((((S2.bel.setCell (h0 0) _).setCell (h0 1) _).setCell (h0 2) _).setCell (h1 0) _).setCell (h1 1) _).setCell (h1 2) _)
end Go.Proofs.YtemkcachndfncaaDoor

namespace Go.Proofs.YtemkcachndfncaaDoor
open Go.RowKit

theorem fd_sign {E : Dy} {X : Int} (h : Fd E X) : (signD E).1 = sgI X ∧ (signD E).2 = 0 := by
  unfold signD
  rw [if_pos h.1]
  refine ⟨?_, rfl⟩
  have e := h.2.2
  unfold qd at e
  rw [← sgI_pw X puH, ← e, sgI_pw]
theorem fd_trn {E : Dy} {X : Int} (h : Fd E X) : Fd (trn E) (-X) := ⟨trn_right h.1, h.2.1, by rw [trn_qd h.1, h.2.2, Int.neg_mul]⟩
/-- Two boxes of a function's own: its argument, and what it answers. -/
structure TwoS (w wr : World) (E : Dy) (a : Option Addr) (c : Nat) : Prop where
  bel : Below w.heap.size w wr
  h0 : Hd wr w.heap.size E a c
  z0 : Fzr wr w.heap.size
  h1 : Hd wr (w.heap.size + 1) dy0 none 0
  z1 : Fzr wr (w.heap.size + 1)
theorem TwoS.top {w wr : World} {E : Dy} {a : Option Addr} {c : Nat} (h : TwoS w wr E a c) : w.heap.size + 1 < wr.heap.size := World.block_lt_of_cell? wr _ h.h1.c0
theorem TwoS.below {w wr w2 : World} {E : Dy} {a : Option Addr} {c : Nat} (h : TwoS w wr E a c) (hb : Below wr.heap.size wr w2) : TwoS w w2 E a c := by
  have l := h.top
  exact ⟨h.bel.trans (hb.mono h.bel.size), h.h0.below hb, h.z0.below (by omega) hb, h.h1.below hb, h.z1.below l hb⟩
theorem TwoS.new {w : World} {E : Dy} {a : Option Addr} {c : Nat} (hr : LRow w a E.mag) : TwoS w ((w.alloc (.cells #[.bool E.neg, .slice a E.mag.length c, .int .i64 E.exp] 31)).alloc (.cells #[.bool false, .slice none 0 0, .int .i64 0] 31)) E a c := by
  have a1 := (Hd.new (w := w) (d := E) (ao := a) (cap := c) hr).below (bal _ (.cells #[.bool false, .slice none 0 0, .int .i64 0] 31))
  have b1 := (fz_new w (.bool E.neg) (.slice a E.mag.length c) (.int .i64 E.exp)).below (by simp) (bal _ (.cells #[.bool false, .slice none 0 0, .int .i64 0] 31))
  have a2 := Hd.new (w := w.alloc (.cells #[.bool E.neg, .slice a E.mag.length c, .int .i64 E.exp] 31)) (d := dy0) (ao := none) (cap := 0) (Or.inl rfl)
  have b2 := fz_new (w.alloc (.cells #[.bool E.neg, .slice a E.mag.length c, .int .i64 E.exp] 31)) (.bool false) (.slice none 0 0) (.int .i64 0)
  have e1 : (w.alloc (.cells #[.bool E.neg, .slice a E.mag.length c, .int .i64 E.exp] 31)).heap.size = w.heap.size + 1 := by go_simp
  rw [e1] at a2 b2
  exact ⟨bth3 (bal _ _) (bal _ _), a1, b1, a2, b2⟩
theorem TwoS.put {w wr : World} {E F : Dy} {a b : Option Addr} {c d : Nat} (h : TwoS w wr E a c) (hr : LRow wr b F.mag) (hf : Frs (w.heap.size + 2) b) : TwoS w (((wr.setCell ⟨w.heap.size, 0, none⟩ (.bool F.neg)).setCell ⟨w.heap.size, 1, none⟩ (.slice b F.mag.length d)).setCell ⟨w.heap.size, 2, none⟩ (.int .i64 F.exp)) F b d := by
  exact ⟨((h.bel.setCell (p := ⟨w.heap.size, 0, none⟩) (Nat.le_refl _) _).setCell (p := ⟨w.heap.size, 1, none⟩) (Nat.le_refl _) _).setCell (p := ⟨w.heap.size, 2, none⟩) (Nat.le_refl _) _,
    put3n h.h0 hr (fun b' off e _ => by have := hf _ e; simp only at this; omega), h.z0.set _ _ _ _, h.h1.oth (by omega) _ _ _ (Or.inl rfl), h.z1.set _ _ _ _⟩
theorem set_ret {w wr : World} {F : Dy} {b : Option Addr} {d : Nat} (hb : Below w.heap.size w wr) : Below w.heap.size w (((wr.setCell ⟨w.heap.size + 1, 0, none⟩ (.bool F.neg)).setCell ⟨w.heap.size + 1, 1, none⟩ (.slice b F.mag.length d)).setCell ⟨w.heap.size + 1, 2, none⟩ (.int .i64 F.exp)) :=
  ((hb.setCell (p := ⟨w.heap.size + 1, 0, none⟩) (Nat.le_succ _) _).setCell (p := ⟨w.heap.size + 1, 1, none⟩) (Nat.le_succ _) _).setCell (p := ⟨w.heap.size + 1, 2, none⟩) (Nat.le_succ _) _
theorem row_ret {w wr : World} {F : Dy} {b : Option Addr} {d : Nat} (hr : LRow wr b F.mag) (hn : ∀ b' off, b = some ⟨b', off, none⟩ → F.mag.length ≠ 0 → b' ≠ w.heap.size + 1) : LRow (((wr.setCell ⟨w.heap.size + 1, 0, none⟩ (.bool F.neg)).setCell ⟨w.heap.size + 1, 1, none⟩ (.slice b F.mag.length d)).setCell ⟨w.heap.size + 1, 2, none⟩ (.int .i64 F.exp)) b F.mag := ((hr.setCell _ hn).setCell _ hn).setCell _ hn
/-- A dyad of the number X handed back, and true. -/
def GaveY (w : World) (X : Int) (e : Ending) (w' : World) : Prop :=
  ∃ (F : Dy) (b : Option Addr) (d : Nat), e = .returned (.tuple #[.agg #[.bool F.neg, .slice b F.mag.length d, .int .i64 F.exp], .bool true]) ∧ Fd F X ∧ LRow w' b F.mag ∧ Below w.heap.size w w'
/-- The same; its limbs are the argument's, or new. -/
def GaveA1 (w : World) (a : Option Addr) (X : Int) (e : Ending) (w' : World) : Prop :=
  ∃ (F : Dy) (b : Option Addr) (d : Nat), e = .returned (.tuple #[.agg #[.bool F.neg, .slice b F.mag.length d, .int .i64 F.exp], .bool true]) ∧ Fd F X ∧ LRow w' b F.mag ∧ (b = a ∨ Frs w.heap.size b) ∧ Below w.heap.size w w'
set_option maxHeartbeats 4000000 in
theorem size_any (E : Dy) (X : Int) (a : Option Addr) (c : Nat) (w : World) (hr : LRow w a E.mag) (hE : Fd E X) :
    Calls Tryd.prog 29 #[.agg #[.bool E.neg, .slice a E.mag.length c, .int .i64 E.exp], .int .i64 0] w (GaveA1 w a (X.natAbs : Int)) := by
  obtain ⟨g1, g2⟩ := fd_sign hE
  have os := fun W h => sign_all E a c W h hE.2.1
  rw [g1, g2] at os
  have on := fun W h => neg_any E a c W h hE.2.1
  have en : negD E = (trn E, 0) := by unfold negD; rw [if_pos hE.1]
  rw [en] at on
  have FN := fd_trn hE
  have S0 := TwoS.new (c := c) hr
  have l0 := row_lt hr
  clear g1 g2 en
  go_enter Tryd.func29, Tryd.ntmps29
  go_upto_region 1 with fail
  generalize (w.alloc (.cells #[.bool E.neg, .slice a E.mag.length c, .int .i64 E.exp] 31)).alloc (.cells #[.bool false, .slice none 0 0, .int .i64 0] 31) = W0 at *
  obtain ⟨p0, p1, p2, pr⟩ := id S0.h0
  by_cases hx : X < 0
  · have i1 : sgI X = -1 := by unfold sgI; rw [if_pos hx]
    rw [i1] at os
    go_upto_region 5 with (go_at_call 59; refine (os _ pr).mono ?_; rintro e w1 ⟨rfl, b1⟩)
    have S1 := S0.below b1
    clear p0 p1 p2 pr S0 b1 os
    obtain ⟨p0, p1, p2, pr⟩ := id S1.h0
    have t1 := S1.top
    generalize trn E = F at *
    go_upto_region 6 with (go_at_call 60; refine (on _ pr).mono ?_; rintro e w2 ⟨b, d, rfl, r2, f2, b2⟩; have S2 := S1.below b2; obtain ⟨p0, p1, p2, _⟩ := id S2.h0; obtain ⟨z0, z1, z2⟩ := id S2.z0)
    have S3 := S2.put (d := d) r2 (f2.mono (by omega))
    generalize (((w2.setCell ⟨w.heap.size, 0, none⟩ (.bool F.neg)).setCell ⟨w.heap.size, 1, none⟩ (.slice b F.mag.length d)).setCell ⟨w.heap.size, 2, none⟩ (.int .i64 F.exp)) = W3 at *
    clear p0 p1 p2 pr z0 z1 z2 S1 S2 b2 on r2
    obtain ⟨p0, p1, p2, pr⟩ := id S3.h0
    obtain ⟨q0, q1, q2, _⟩ := id S3.h1
    obtain ⟨z0, z1, z2⟩ := id S3.z1
    have m1 : ¬ w.heap.size = w.heap.size + 1 := by omega
    have m2 : ¬ w.heap.size + 1 = w.heap.size := by omega
    go_wp2
    refine bodyPost_ret (v := .tuple #[.agg #[.bool F.neg, .slice b F.mag.length d, .int .i64 F.exp], .bool true]) (by simp [results, Tryd.results29, go_sem, q0, q1, q2]) rfl ⟨F, b, d, rfl, ?_, row_ret pr (fun b' off e _ => by have := f2 _ e; simp only at this; omega), Or.inr (f2.mono (by omega)), set_ret S3.bel⟩
    rw [show (X.natAbs : Int) = -X by omega]; exact FN
  · have i1 : ¬ sgI X < 0 := by unfold sgI; rw [if_neg hx]; split <;> omega
    generalize sgI X = sg at *
    go_upto_region 6 with (go_at_call 59; refine (os _ pr).mono ?_; rintro e w1 ⟨rfl, b1⟩)
    have S1 := S0.below b1
    clear p0 p1 p2 pr S0 b1 os
    obtain ⟨p0, p1, p2, pr⟩ := id S1.h0
    obtain ⟨q0, q1, q2, _⟩ := id S1.h1
    obtain ⟨z0, z1, z2⟩ := id S1.z1
    have m1 : ¬ w.heap.size = w.heap.size + 1 := by omega
    have m2 : ¬ w.heap.size + 1 = w.heap.size := by omega
    go_wp2
    refine bodyPost_ret (v := .tuple #[.agg #[.bool E.neg, .slice a E.mag.length c, .int .i64 E.exp], .bool true]) (by simp [results, Tryd.results29, go_sem, q0, q1, q2]) rfl ⟨E, a, c, rfl, ?_, row_ret pr (fun b' off e l => by have := l0 _ _ e l; omega), Or.inl rfl, set_ret S1.bel⟩
    rw [show (X.natAbs : Int) = X by omega]; exact hE
set_option maxHeartbeats 2000000 in
theorem atmost_any (E F : Dy) (X Y : Int) (a b : Option Addr) (c d : Nat) (w : World) (hr : LRow w a E.mag) (hs : LRow w b F.mag) (hE : Fd E X) (hF : Fd F Y) (h : X ≤ Y) :
    Calls Tryd.prog 26 #[.agg #[.bool E.neg, .slice a E.mag.length c, .int .i64 E.exp], .agg #[.bool F.neg, .slice b F.mag.length d, .int .i64 F.exp]] w fun e w' => e = .returned (.bool true) ∧ Below w.heap.size w w' := by
  have cm := fun ao bo cap bcap w h1 h2 => Cmp_right E F ao bo cap bcap w h1 h2 hE.2.1 hF.2.1 hE.1 hF.1
  rw [fd_cmp hE hF] at cm
  have i1 : sgI (X - Y) ≤ 0 := by unfold sgI; split; omega; split; omega; omega
  generalize sgI (X - Y) = q at *
  have H1 := (Hd.new (w := w) (d := E) (ao := a) (cap := c) hr).below (bal _ (.cells #[.bool F.neg, .slice b F.mag.length d, .int .i64 F.exp] 31))
  have H2 := Hd.new (w := w.alloc (.cells #[.bool E.neg, .slice a E.mag.length c, .int .i64 E.exp] 31)) (d := F) (ao := b) (cap := d) (hs.alloc _)
  have e1 : (w.alloc (.cells #[.bool E.neg, .slice a E.mag.length c, .int .i64 E.exp] 31)).heap.size = w.heap.size + 1 := by go_simp
  rw [e1] at H2
  have B1 := bth3 (bal w (.cells #[.bool E.neg, .slice a E.mag.length c, .int .i64 E.exp] 31)) (bal _ (.cells #[.bool F.neg, .slice b F.mag.length d, .int .i64 F.exp] 31))
  go_enter Tryd.func26, Tryd.ntmps26
  go_upto_region 1 with fail
  generalize (w.alloc (.cells #[.bool E.neg, .slice a E.mag.length c, .int .i64 E.exp] 31)).alloc (.cells #[.bool F.neg, .slice b F.mag.length d, .int .i64 F.exp] 31) = W0 at *
  obtain ⟨p0, p1, p2, pr⟩ := id H1
  obtain ⟨q0, q1, q2, qr⟩ := id H2
  go_wp2_with (go_at_call 11; refine (cm _ _ _ _ _ pr qr).mono ?_; rintro e w1 ⟨rfl, b1⟩)
  go_ret
  exact ⟨rfl, bth3 B1 b1⟩
set_option maxHeartbeats 4000000 in
theorem apart_fin (x : Nat) (D : Dy) (X : Int) (a : Option Addr) (c : Nat) (w : World) (hT : TabW w) (hx : x < 18446744073709551616) (fx : finB x = true) (hr : LRow w a D.mag) (hD : Fd D X) (hb : bl (vI x * 2 ^ twP - X).natAbs ≤ 16384) :
    Calls Tryd.prog 24 #[.float .f64 x, .agg #[.bool D.neg, .slice a D.mag.length c, .int .i64 D.exp]] w (GaveY w ((vI x * 2 ^ twP - X).natAbs : Int)) := by
  obtain ⟨Y, eY, FY⟩ := fd_of fx
  have oo := fun W h => Of_any x hx W h
  rw [eY] at oo
  have ob := fun ao bo cap bcap w h1 h2 h3 => Sub_any Y D ao bo cap bcap w h1 h2 FY.2.1 hD.2.1 h3
  rw [fd_sub FY hD hb] at ob
  have FE := fd_dz hb
  have oz := fun ao cap w h => size_any (dz (vI x * 2 ^ twP - X)) _ ao cap w h FE
  generalize dz (vI x * 2 ^ twP - X) = E at *
  generalize vI x * 2 ^ twP - X = Q at *
  have S0 := TwoS.new (c := c) hr
  clear hr hD FY eY hb
  go_enter Tryd.func24, Tryd.ntmps24
  go_upto_region 1 with fail
  generalize (w.alloc (.cells #[.bool D.neg, .slice a D.mag.length c, .int .i64 D.exp] 31)).alloc (.cells #[.bool false, .slice none 0 0, .int .i64 0] 31) = W0 at *
  have T0 := tabW_below hT S0.bel
  go_upto_region 2 with (go_at_call 16; refine (oo _ T0).mono ?_; rintro e w1 ⟨ay, cy, rfl, ry, _, b1⟩)
  obtain ⟨V1, hV1⟩ : ∃ V, w1.alloc (.cells #[.bool Y.neg, .slice ay Y.mag.length cy, .int .i64 Y.exp] 31) = V := ⟨_, rfl⟩
  have B1 : Below W0.heap.size W0 V1 := by rw [← hV1]; exact bth3 b1 (bal _ _)
  have HY : Hd V1 w1.heap.size Y ay cy := by rw [← hV1]; exact Hd.new ry
  rw [hV1]
  have S1 := S0.below B1
  have T1 := tabW_below T0 B1
  clear hV1 ry b1 B1 S0 T0 oo
  generalize w1.heap.size = PY at *
  obtain ⟨p0, p1, p2, pr⟩ := id S1.h0
  obtain ⟨y0, y1, y2, yr⟩ := id HY
  have t1 := S1.top
  go_upto_region 5 with (go_at_call 55; refine (ob _ _ _ _ _ yr pr T1).mono ?_; rintro e w2 ⟨ae, ce, rfl, re, fe, b2⟩)
  obtain ⟨V2, hV2⟩ : ∃ V, w2.alloc (.cells #[.bool E.neg, .slice ae E.mag.length ce, .int .i64 E.exp] 31) = V := ⟨_, rfl⟩
  have B2 : Below V1.heap.size V1 V2 := by rw [← hV2]; exact bth3 b2 (bal _ _)
  have HE : Hd V2 w2.heap.size E ae ce := by rw [← hV2]; exact Hd.new re
  rw [hV2]
  have S2 := S1.below B2
  have nE : Frs (w.heap.size + 2) ae := fe.mono (by omega)
  clear hV2 re fe b2 B2 S1 T1 ob p0 p1 p2 pr y0 y1 y2 yr HY
  generalize w2.heap.size = PE at *
  obtain ⟨p0, p1, p2, pr⟩ := id HE
  have t2 := S2.top
  go_wp2_with (go_at_call 29; refine (oz _ _ _ pr).mono ?_; rintro e w3 ⟨F, b, d, rfl, hF, r3, hbb, b3⟩; have S3 := S2.below b3; obtain ⟨q0, q1, q2, _⟩ := id S3.h1; obtain ⟨z0, z1, z2⟩ := id S3.z1)
  refine bodyPost_ret (v := .tuple #[.agg #[.bool F.neg, .slice b F.mag.length d, .int .i64 F.exp], .bool true]) (by simp [results, Tryd.results24, go_sem, q0, q1, q2]) rfl ⟨F, b, d, rfl, hF, row_ret r3 (fun b' off e _ => ?_), set_ret S3.bel⟩
  rcases hbb with g | g
  · have := nE _ (g.symm.trans e); simp only at this; omega
  · have := g _ e; simp only at this; omega
set_option maxHeartbeats 2000000 in
theorem apart_not (x : Nat) (D : Dy) (a : Option Addr) (c : Nat) (w : World) (hT : TabW w) (hx : x < 18446744073709551616) (fx : finB x = false) (hr : LRow w a D.mag) :
    Calls Tryd.prog 24 #[.float .f64 x, .agg #[.bool D.neg, .slice a D.mag.length c, .int .i64 D.exp]] w fun e w' => e = .returned (.tuple #[.agg #[.bool D.neg, .slice a D.mag.length c, .int .i64 D.exp], .bool false]) ∧ LRow w' a D.mag ∧ Below w.heap.size w w' := by
  have oo := fun W h => Of_any x hx W h
  have eY : ofD x = (dy0, 5) := by unfold ofD; rw [if_pos fx]
  rw [eY] at oo
  have l0 := row_lt hr
  have S0 := TwoS.new (c := c) hr
  clear hr eY
  go_enter Tryd.func24, Tryd.ntmps24
  go_upto_region 1 with fail
  generalize (w.alloc (.cells #[.bool D.neg, .slice a D.mag.length c, .int .i64 D.exp] 31)).alloc (.cells #[.bool false, .slice none 0 0, .int .i64 0] 31) = W0 at *
  have T0 := tabW_below hT S0.bel
  go_upto_region 2 with (go_at_call 16; refine (oo _ T0).mono ?_; rintro e w1 ⟨ay, cy, rfl, ry, _, b1⟩)
  obtain ⟨V1, hV1⟩ : ∃ V, w1.alloc (.cells #[.bool dy0.neg, .slice ay dy0.mag.length cy, .int .i64 dy0.exp] 31) = V := ⟨_, rfl⟩
  have B1 : Below W0.heap.size W0 V1 := by rw [← hV1]; exact bth3 b1 (bal _ _)
  rw [hV1]
  have S1 := S0.below B1
  clear hV1 ry b1 B1 S0 T0 oo
  generalize w1.heap.size = PY at *
  obtain ⟨p0, p1, p2, pr⟩ := id S1.h0
  obtain ⟨q0, q1, q2, _⟩ := id S1.h1
  obtain ⟨z0, z1, z2⟩ := id S1.z1
  have m1 : ¬ w.heap.size = w.heap.size + 1 := by omega
  have m2 : ¬ w.heap.size + 1 = w.heap.size := by omega
  go_wp2
  exact bodyPost_ret (v := .tuple #[.agg #[.bool D.neg, .slice a D.mag.length c, .int .i64 D.exp], .bool false]) (by simp [results, Tryd.results24, go_sem, q0, q1, q2]) rfl ⟨rfl, row_ret pr (fun b' off e l => by have := l0 _ _ e l; omega), set_ret S1.bel⟩
theorem first_not (xs : List Nat) : ∀ n, n ≤ xs.length → (∀ j, j < n → finB (xs.getD j 0) = true) ∨ ∃ K, K < n ∧ finB (xs.getD K 0) = false ∧ ∀ j, j < K → finB (xs.getD j 0) = true
  | 0, _ => Or.inl (fun j h => by omega)
  | n + 1, h => by
    rcases first_not xs n (by omega) with g | ⟨K, k1, k2, k3⟩
    · cases f : finB (xs.getD n 0)
      · exact Or.inr ⟨n, by omega, f, g⟩
      · exact Or.inl (fun j hj => by
          by_cases e : j = n
          · rw [e]; exact f
          · exact g j (by omega))
    · exact Or.inr ⟨K, by omega, k2, k3⟩
theorem lsum_not (xs : List Nat) (ao : Option Addr) (cap : Nat) (w : World) (hT : TabW w) (hr : GRow w ao xs) (hF : FW xs) (hn : xs.length ≤ 1125899906842624) (hf : xs.all finB = false) :
    Calls Tryd.prog 10 #[.slice ao xs.length cap] w (GaveNo w) := by
  rcases first_not xs xs.length (Nat.le_refl _) with g | ⟨K, k1, k2, k3⟩
  · exfalso
    have : xs.all finB = true := by
      rw [List.all_eq_true]
      intro x hx
      obtain ⟨j, hj, e⟩ := List.mem_iff_getElem.1 hx
      have := g j hj
      rw [getD_at hj, e] at this
      exact this
    rw [this] at hf; cases hf
  · have et : ∀ k, k < K → (xs.take K).getD k 0 = xs.getD k 0 := fun k hk => by simp [List.getD_eq_getElem?_getD, hk]
    have hl : (xs.take K).length = K := by rw [List.length_take]; omega
    have hy : (xs.take K).all finB = true := by
      rw [List.all_eq_true]
      intro x hx
      obtain ⟨j, hj, e⟩ := List.mem_iff_getElem.1 hx
      have := k3 j (by omega)
      rw [← et j (by omega), getD_at hj, e] at this
      exact this
    have hz := sizes_fin hy
    have hlz : ((xs.take K).map rung).length = K := by rw [List.length_map, hl]
    have n1 : ofD (xs.getD K 0) = (dy0, 5) := by unfold ofD; rw [if_pos k2]
    have n2 : ofD (rung (xs.getD K 0)) = (dy0, 5) := by
      unfold ofD
      rw [if_pos]
      unfold finB at k2 ⊢
      rw [rung_small (rung_lt _)]
      exact k2
    refine lsum_stop xs ao cap K (fun k => (ofD (xs.getD k 0)).1) (fun k => (ofD (rung (xs.getD k 0))).1) (sD (xs.take K)) (sD ((xs.take K).map rung)) w hT hr hF hn k1 (fun k hk => ?_) (by unfold sD sI nrm; rw [if_pos rfl]) (by unfold sD sI nrm; rw [if_pos rfl]) (fun k hk => ⟨?_, ?_⟩) (fun k _ => ⟨nrm_lm _ _, nrm_lm _ _⟩) ⟨n1, n2⟩
    · obtain ⟨b1, _, b3, _⟩ := fq_qd (k3 k hk) (K := 64462) rfl
      obtain ⟨d1, _, d3, _⟩ := fq_qd (fin_at hz (by rw [hlz]; exact hk)) (K := 64462) rfl
      rw [sizes_at (by rw [hl]; exact hk), et k hk] at d1 d3
      exact ⟨by rw [← b1], b3, by rw [← d1], d3⟩
    · rw [← et k hk]
      exact sD_add hy (by omega) (by omega)
    · rw [← et k hk, ← sizes_at (xs := xs.take K) (by rw [hl]; exact hk)]
      exact sD_add hz (by omega) (by omega)
end Go.Proofs.YtemkcachndfncaaDoor

namespace Go.Proofs.YtemkcachndfncaaDoor
open Go.RowKit

theorem sameNR {o : Option Nat} {r s : Nat} (h : NR o r) (g : NR o s) (w : World) : Calls Tryd.prog 20 #[.float .f64 r, .float .f64 s] w fun e w' => e = .returned (.bool true) ∧ w' = w := by
  have k := samef_any r s h.1 g.1 w
  rw [NR_same h g] at k
  exact k
theorem nr_some {o : Option Nat} {r : Nat} (h : NR o r) (f : finB r = true) : o = some r := by
  cases o with
  | none =>
    have : nanB r = true := h.2
    rw [fin_not f] at this; cases this
  | some v => rw [h.2]
theorem near_plain {ys : List Nat} (hn : ys.length ≤ 200) (hF : FW ys) (hf : ys.all finB = true) {v b s : Nat} (hv : NR (naiveO ys) v) (hs : NR (nrO ys ys.length) s) (hb : NR (mulO (cW ys.length) s 2) b) (fv : finB v = true) (fb : finB b = true) :
    ((vI v - sI ys ys.length).natAbs : Int) ≤ vI b ∧ ∀ p, NR (pairF ys.length ys) p → finB p = true → ((vI p - sI ys ys.length).natAbs : Int) ≤ vI b := by
  obtain ⟨s', e1, e2, _, e4⟩ := nr_inv ys ys.length (by omega) (fun j hj => fin_not (fin_at hf hj))
  rw [e1] at hs
  obtain rfl : s = s' := hs.2
  have hm := nr_some hb fb
  obtain ⟨g1, g2⟩ := bound_up hn e2 (cOk_at (by omega)).2.2 hm fb
  obtain ⟨_, e5, _⟩ := e4 g1
  have e6 : sI (szL ys) ys.length = la ys := by
    show sI (ys.map rung) ys.length = _
    rw [sI_la ys _ (Nat.le_refl _), List.take_length]
  have e7 : sI ys ys.length = lv ys := by rw [sI_lv ys _ (Nat.le_refl _), List.take_length]
  rw [e6] at e5
  rw [e7]
  rw [vI_pos (Nat.le_of_lt g1)] at g2
  have e8 : (ys.length : Int) * la ys ≤ (ys.length : Int) * (val s : Int) := Int.mul_le_mul_of_nonneg_left e5 (by omega)
  have e9 : 0 ≤ (ys.length : Int) * la ys := Int.mul_nonneg (by omega) (la_pos ys)
  have k1 := (naive_err ys.length ys rfl hn hF hf v (nr_some hv fv)).2.2 fv
  refine ⟨?_, fun p hp fp => ?_⟩
  · generalize (ys.length : Int) * la ys = q at *
    generalize (ys.length : Int) * (val s : Int) = z at *
    omega
  · have k2 := (pair_err ys.length ys (Nat.le_refl _) hn hF hf p (nr_some hp fp)).2.2 fp
    generalize (ys.length : Int) * la ys = q at *
    generalize (ys.length : Int) * (val s : Int) = z at *
    omega
theorem sI_small {ys : List Nat} (hn : ys.length ≤ 200) (hf : ys.all finB = true) {V : Nat} (hV : V = 2106) : (sI ys ys.length).natAbs < 2 ^ V := by
  have h1 := sI_lt hf (V := 2098) rfl ys.length (Nat.le_refl _)
  obtain ⟨U, hU⟩ : ∃ U : Nat, U = 2098 := ⟨_, rfl⟩
  rw [← hU] at h1
  rw [hV, show (2106 : Nat) = U + 8 by rw [hU], Nat.pow_add]
  have hp := Nat.two_pow_pos U
  have : ys.length * 2 ^ U ≤ 200 * 2 ^ U := Nat.mul_le_mul_right _ hn
  generalize (2 : Nat) ^ U = w at *
  omega
theorem near_bl {ys : List Nat} (hn : ys.length ≤ 200) (hf : ys.all finB = true) {x : Nat} (fx : finB x = true) : bl (vI x * 2 ^ twP - sI ys ys.length * 2 ^ twP).natAbs ≤ 16384 := by
  obtain ⟨U, hU⟩ : ∃ U : Nat, U = 2106 := ⟨_, rfl⟩
  have h1 := sI_small hn hf hU
  obtain ⟨V, hV, h2⟩ := vI_bd fx
  have h3 : (2 : Nat) ^ V ≤ 2 ^ U := Nat.pow_le_pow_right (by omega) (by omega)
  refine bl_sm (n := U + 1 + twP) ?_ (by unfold twP; omega)
  rw [← Int.sub_mul, Int.natAbs_mul, pw_abs, Nat.pow_add]
  refine (Nat.mul_lt_mul_right (Nat.two_pow_pos twP)).2 ?_
  rw [Nat.pow_succ]
  generalize (2 : Nat) ^ U = a at *
  generalize (2 : Nat) ^ V = b at *
  omega
theorem sD_fd {ys : List Nat} (hn : ys.length ≤ 200) (hf : ys.all finB = true) : Fd (sD ys ys.length) (sI ys ys.length * 2 ^ twP) := by
  obtain ⟨h1, h2, h3⟩ := sD_qd hf (by omega) (k := ys.length) (Nat.le_refl _) (K := 64462) rfl
  refine ⟨h1, h2, ?_⟩
  rw [h3, Int.mul_assoc, ← Int.pow_add]; rfl
theorem abs_units (x y : Int) : ((x * 2 ^ twP - y * 2 ^ twP).natAbs : Int) = ((x - y).natAbs : Int) * 2 ^ twP := by
  rw [← Int.sub_mul, Int.natAbs_mul, pw_abs, Int.natCast_mul, pw_cast]
theorem up_units {x y : Int} (h : x ≤ y) : x * 2 ^ twP ≤ y * 2 ^ twP := Int.mul_le_mul_of_nonneg_right h (Int.le_of_lt (pw_pos twP))
set_option maxRecDepth 100000 in
set_option maxHeartbeats 8000000 in
theorem near_law (xs : List Nat) (ao : Option Addr) (cap : Nat) (w : World) (hT : TabW w) (hr : GRow w ao xs) (hF : FW xs) (hl : xs.length ≤ cap) (hc : cap ≤ 1125899906842624) :
    Calls Tryd.prog 5 #[.slice ao xs.length cap] w fun e w' => e = .returned (.bool true) ∧ Below w.heap.size w w' := by
  have q0 : (FloatKind.f64.format.order 0 0 == some .eq) = true := by kernel_rfl
  go_enter Tryd.func5, Tryd.ntmps5
  go_upto_if 20 with (go_at_call 7; refine (uawake _ hT).mono ?_; rintro e w1 ⟨rfl, b1⟩)
  have HB := b1
  have T1 := tabW_below hT HB
  replace hr := hr.below b1
  clear b1 hT
  go_cut [0] from 21 (fun s0 wx => s0 = .slice ao (xs.take 200).length cap ∧ wx = w1)
  case first =>
    by_cases h : 200 < xs.length
    · have i1 : (200 : Int) < (xs.length : Int) := by omega
      have i2 : (200 : Int) ≤ (cap : Int) := by omega
      have i3 : ¬ cap = 0 := by omega
      have e : (xs.take 200).length = 200 := by rw [List.length_take]; omega
      rcases hr with g | ⟨b, off, rfl, _⟩
      · omega
      · go_wp2_with fail
        go_meet
        exact ⟨by rw [e], rfl⟩
    · have i1 : ¬ (200 : Int) < (xs.length : Int) := by omega
      have e : (xs.take 200).length = xs.length := by rw [List.length_take]; omega
      go_wp2_with fail
      go_meet
      exact ⟨by rw [e], rfl⟩
  obtain ⟨rfl, rfl⟩ := hcut
  replace hr := hr.take 200
  replace hF := hF.take 200
  have hn : (xs.take 200).length ≤ 200 := by rw [List.length_take]; omega
  have hl2 : (xs.take 200).length ≤ cap := by rw [List.length_take]; omega
  clear hl
  generalize xs.take 200 = ys at *
  cases hf : ys.all finB
  · have c1 := fun W h => near_not ys ao cap W h hF (by omega) hf
    have c2 := fun W h1 h2 => lsum_not ys ao cap W h1 h2 hF (by omega) hf
    clear hf hF
    go_upto_region 7 with (first
      | (go_at_call 23; refine (c1 _ hr).mono ?_; rintro e w' ⟨rfl, h'⟩; subst w')
      | (go_at_call 10; refine (c2 _ T1 hr).mono ?_; rintro e w2 ⟨D, oa, ca, rfl, b2⟩))
    have B2 := bth3 (bth3 b2 (bal _ (.cells #[.bool D.neg, .slice oa D.mag.length ca, .int .i64 D.exp] 31))) (bal _ (.cells #[.bool D.neg, .slice oa D.mag.length ca, .int .i64 D.exp] 31))
    generalize (w2.alloc (.cells #[.bool D.neg, .slice oa D.mag.length ca, .int .i64 D.exp] 31)).alloc (.cells #[.bool D.neg, .slice oa D.mag.length ca, .int .i64 D.exp] 31) = V at *
    clear c1 c2 b2
    go_wp2
    go_ret
    exact ⟨rfl, bth3 HB B2⟩
  · have c1 := fun W h1 h2 => near_fin ys ao cap W h1 h2 hF (by omega) hf
    have c2 := fun W h1 h2 => lsum_fin ys ao cap W h1 h2 hF (by omega) hf
    have c3 := fun W h => pair_any ys.length ys ao cap W (Nat.le_refl _) h hF hl2 hc
    have c4 := fun W h => naive_any ys ao cap W h hF (by omega)
    have HP : Hid _ := @near_plain ys hn hF hf
    have FD := sD_fd hn hf
    have HL : Hid (∀ x, finB x = true → bl (vI x * 2 ^ twP - sI ys ys.length * 2 ^ twP).natAbs ≤ 16384) := fun x fx => near_bl hn hf fx
    clear hf hF
    generalize sD ys ys.length = D at *
    generalize sD (ys.map rung) ys.length = Z at *
    go_upto_region 6 with (go_at_call 23; refine (c1 _ T1 hr).mono ?_; rintro e w2 ⟨v, b, s, nv, ns, nb, hvb, b2⟩; rcases hvb with ⟨hq, rfl⟩ | ⟨hq, rfl⟩)
    · replace HB := bth3 HB b2
      replace T1 := tabW_below T1 b2
      replace hr := hr.below b2
      have fv : finB v = true := by revert hq; cases finB v <;> simp
      have fb : finB b = true := by revert hq; cases finB v <;> simp
      have HP2 : Hid _ := HP.out nv ns nb fv fb
      have hv := nv.1
      have hb := nb.1
      have nv : NR (naiveO ys) v := nv
      clear c1 hq b2 ns nb HP
      obtain ⟨Y, eY, FY⟩ := fd_of fb
      have oY := fun W h => Of_any b hb W h
      rw [eY] at oY
      have c5 := fun a c W h1 h2 => apart_fin v D _ a c W h1 hv fv h2 FD (HL.out v fv)
      rw [abs_units] at c5
      go_upto_region 9 with (go_at_call 10; refine (c2 _ T1 hr).mono ?_; rintro e w3 ⟨oa, ca, ob, cb, rfl, ra, rb, b3⟩)
      obtain ⟨V1, hV1⟩ : ∃ V, (w3.alloc (.cells #[.bool D.neg, .slice oa D.mag.length ca, .int .i64 D.exp] 31)).alloc (.cells #[.bool Z.neg, .slice ob Z.mag.length cb, .int .i64 Z.exp] 31) = V := ⟨_, rfl⟩
      have B1 : Below w3.heap.size w3 V1 := by rw [← hV1]; exact bth3 (bal _ _) (bal _ _)
      have HD : Hd V1 w3.heap.size D oa ca := by rw [← hV1]; exact (Hd.new ra).below (bal _ _)
      rw [hV1]
      have B2 := bth3 b3 B1
      replace HB := bth3 HB B2
      replace T1 := tabW_below T1 B2
      replace hr := hr.below B2
      clear hV1 ra rb b3 c2 B1 B2
      generalize w3.heap.size = PD at *
      obtain ⟨p0, p1, p2, pr⟩ := id HD
      go_upto_region 10 with (go_at_call 24; refine (c5 _ _ _ T1 pr).mono ?_; rintro e w4 ⟨F, of, cf, rfl, hFF, rf, b4⟩)
      obtain ⟨V2, hV2⟩ : ∃ V, w4.alloc (.cells #[.bool F.neg, .slice of F.mag.length cf, .int .i64 F.exp] 31) = V := ⟨_, rfl⟩
      have B2 : Below V1.heap.size V1 V2 := by rw [← hV2]; exact bth3 b4 (bal _ _)
      have HF : Hd V2 w4.heap.size F of cf := by rw [← hV2]; exact Hd.new rf
      rw [hV2]
      replace HB := bth3 HB B2
      replace T1 := tabW_below T1 B2
      replace hr := hr.below B2
      replace HD := HD.below B2
      clear hV2 rf b4 c5 B2 p0 p1 p2 pr
      generalize w4.heap.size = PF at *
      go_upto_region 11 with (go_at_call 16; refine (oY _ T1).mono ?_; rintro e w5 ⟨oy, cy, rfl, ry, _, b5⟩)
      obtain ⟨V3, hV3⟩ : ∃ V, w5.alloc (.cells #[.bool Y.neg, .slice oy Y.mag.length cy, .int .i64 Y.exp] 31) = V := ⟨_, rfl⟩
      have B3 : Below V2.heap.size V2 V3 := by rw [← hV3]; exact bth3 b5 (bal _ _)
      have HY : Hd V3 w5.heap.size Y oy cy := by rw [← hV3]; exact Hd.new ry
      rw [hV3]
      replace HB := bth3 HB B3
      replace T1 := tabW_below T1 B3
      replace hr := hr.below B3
      replace HD := HD.below B3
      replace HF := HF.below B3
      clear hV3 ry b5 oY B3
      generalize w5.heap.size = PY at *
      go_upto_region 12 with (go_at_call 25; refine (c3 _ hr).mono ?_; rintro e w6 ⟨p, rfl, np, b6⟩)
      replace HB := bth3 HB b6
      replace T1 := tabW_below T1 b6
      replace hr := hr.below b6
      replace HD := HD.below b6
      replace HF := HF.below b6
      replace HY := HY.below b6
      have hp := np.1
      have HQ : Hid (finB p = true → ((vI p - sI ys ys.length).natAbs : Int) ≤ vI b) := fun f => HP2.out.2 p np f
      have k1 := up_units HP2.out.1
      have am := fun a c a' c' W h1 h2 => atmost_any F Y _ _ a a' c c' W h1 h2 hFF FY k1
      clear c3 b6 np HP2 k1
      obtain ⟨p0, p1, p2, pr⟩ := id HD
      cases fp : finB p
      · have c5 := fun a c W h1 h2 => apart_not p D a c W h1 hp fp h2
        have c6 := fin_no p hp fp
        go_upto_region 13 with (go_at_call 24; refine (c5 _ _ _ T1 pr).mono ?_; rintro e w7 ⟨rfl, rg, b7⟩)
        obtain ⟨V4, hV4⟩ : ∃ V, w7.alloc (.cells #[.bool D.neg, .slice oa D.mag.length ca, .int .i64 D.exp] 31) = V := ⟨_, rfl⟩
        have B4 : Below w6.heap.size w6 V4 := by rw [← hV4]; exact bth3 b7 (bal _ _)
        rw [hV4]
        replace HB := bth3 HB B4
        replace hr := hr.below B4
        replace HF := HF.below B4
        replace HY := HY.below B4
        clear hV4 rg b7 c5 B4 p0 p1 p2 pr
        generalize w7.heap.size = PG at *
        obtain ⟨p0, p1, p2, pr⟩ := id HF
        obtain ⟨y0, y1, y2, yr⟩ := id HY
        go_wp2_with (first
          | (go_at_call 26; refine (am _ _ _ _ _ pr yr).mono ?_; rintro e w8 ⟨rfl, b8⟩)
          | (go_at_call 27; refine (c4 _ (hr.below b8)).mono ?_; rintro e w9 ⟨v2, rfl, n2, b9⟩)
          | (go_at_call 20; refine (sameNR nv n2 _).mono ?_; rintro e w' ⟨rfl, h'⟩; subst w')
          | (go_at_call 13; refine (c6 _).mono ?_; rintro e w' ⟨rfl, h'⟩; subst w'))
        go_ret
        exact ⟨rfl, (bth3 (bth3 HB b8) b9).drew⟩
      · have c5 := fun a c W h1 h2 => apart_fin p D _ a c W h1 hp fp h2 FD (HL.out p fp)
        rw [abs_units] at c5
        have k2 := up_units (HQ.out fp)
        have c6 := fin_yes p hp fp
        go_upto_region 13 with (go_at_call 24; refine (c5 _ _ _ T1 pr).mono ?_; rintro e w7 ⟨G, og, cg, rfl, hG, rg, b7⟩)
        have an := fun a c a' c' W h1 h2 => atmost_any G Y _ _ a a' c c' W h1 h2 hG FY k2
        obtain ⟨V4, hV4⟩ : ∃ V, w7.alloc (.cells #[.bool G.neg, .slice og G.mag.length cg, .int .i64 G.exp] 31) = V := ⟨_, rfl⟩
        have B4 : Below w6.heap.size w6 V4 := by rw [← hV4]; exact bth3 b7 (bal _ _)
        have HG : Hd V4 w7.heap.size G og cg := by rw [← hV4]; exact Hd.new rg
        rw [hV4]
        replace HB := bth3 HB B4
        replace hr := hr.below B4
        replace HF := HF.below B4
        replace HY := HY.below B4
        clear hV4 rg b7 c5 B4 p0 p1 p2 pr k2
        generalize w7.heap.size = PG at *
        obtain ⟨p0, p1, p2, pr⟩ := id HF
        obtain ⟨y0, y1, y2, yr⟩ := id HY
        go_wp2_with (first
          | (go_at_call 26; refine (an _ _ _ _ _ gr' yr').mono ?_; rintro e w10 ⟨rfl, b10⟩)
          | (go_at_call 26; refine (am _ _ _ _ _ pr yr).mono ?_; rintro e w8 ⟨rfl, b8⟩)
          | (go_at_call 27; refine (c4 _ (hr.below b8)).mono ?_; rintro e w9 ⟨v2, rfl, n2, b9⟩; have b89 := bth3 b8 b9; obtain ⟨g0, g1, g2, gr'⟩ := HG.below b89; obtain ⟨y0, y1, y2, yr'⟩ := HY.below b89)
          | (go_at_call 20; refine (sameNR nv n2 _).mono ?_; rintro e w' ⟨rfl, h'⟩; subst w')
          | (go_at_call 13; refine (c6 _).mono ?_; rintro e w' ⟨rfl, h'⟩; subst w'))
        go_ret
        exact ⟨rfl, bth3 (bth3 HB b89) b10⟩
    · replace HB := bth3 HB b2
      replace T1 := tabW_below T1 b2
      replace hr := hr.below b2
      clear c1 hq b2 nv ns nb HP FD HL c3 c4
      go_upto_region 7 with (go_at_call 10; refine (c2 _ T1 hr).mono ?_; rintro e w3 ⟨oa, ca, ob, cb, rfl, ra, rb, b3⟩)
      have B2 := bth3 (bth3 b3 (bal _ (.cells #[.bool D.neg, .slice oa D.mag.length ca, .int .i64 D.exp] 31))) (bal _ (.cells #[.bool Z.neg, .slice ob Z.mag.length cb, .int .i64 Z.exp] 31))
      generalize (w3.alloc (.cells #[.bool D.neg, .slice oa D.mag.length ca, .int .i64 D.exp] 31)).alloc (.cells #[.bool Z.neg, .slice ob Z.mag.length cb, .int .i64 Z.exp] 31) = V at *
      clear c2 b3 ra rb
      go_wp2
      go_ret
      exact ⟨rfl, bth3 HB B2⟩
end Go.Proofs.YtemkcachndfncaaDoor
