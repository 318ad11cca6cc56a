/- What sum of layer 6's laws answers of finite floats: the exact sum, and that of the sizes. -/
import Derived.Test.YtfhejejfeffdcaaDoorJx
import Derived.Test.YtfhejejfeffdcaaDoorRB
namespace Go.Proofs.YtfhejejfeffdcaaDoor
open Go.RowKit

/-- The limbs lie behind two boxes. -/
def Nob (Q : Nat) (D : Dy) (a : Option Addr) : Prop := ∀ b off, a = some ⟨b, off, none⟩ → D.mag.length ≠ 0 → Q + 1 < b
theorem nob_frs {Q B : Nat} {D : Dy} {a : Option Addr} (h : Frs B a) (hB : Q + 1 < B) : Nob Q D a := fun b off e _ => by
  have := h _ e
  simp only at this
  omega
/-- What lies in memory on the way. -/
structure SumS (w wr : World) (D Z : Dy) (a : Option Addr) (c : Nat) (b : Option Addr) (d Q : Nat) : Prop where
  bel : Below w.heap.size w wr
  h2 : Hd wr w.heap.size dy0 none 0
  z2 : Fzr wr w.heap.size
  h3 : Hd wr (w.heap.size + 1) dy0 none 0
  z3 : Fzr wr (w.heap.size + 1)
  h5 : Hd wr Q D a c
  z5 : Fzr wr Q
  h6 : Hd wr (Q + 1) Z b d
  z6 : Fzr wr (Q + 1)
  n5 : Nob Q D a
  n6 : Nob Q Z b
  lt : w.heap.size + 1 < Q
theorem SumS.top {w wr : World} {D Z : Dy} {a : Option Addr} {c : Nat} {b : Option Addr} {d Q : Nat} (h : SumS w wr D Z a c b d Q) : Q + 1 < wr.heap.size := World.block_lt_of_cell? wr _ h.h6.c0
theorem SumS.below {w wr w2 : World} {D Z : Dy} {a : Option Addr} {c : Nat} {b : Option Addr} {d Q : Nat} (h : SumS w wr D Z a c b d Q) (hb : Below wr.heap.size wr w2) : SumS w w2 D Z a c b d Q := by
  have l := h.top
  have m := h.lt
  exact ⟨h.bel.trans (hb.mono h.bel.size), h.h2.below hb, h.z2.below (by omega) hb, h.h3.below hb, h.z3.below (by omega) hb, h.h5.below hb, h.z5.below (by omega) hb, h.h6.below hb, h.z6.below l hb, h.n5, h.n6, m⟩
theorem SumS.put5 {w wr : World} {D Z E : Dy} {a a' : Option Addr} {c c' : Nat} {b : Option Addr} {d Q : Nat} (h : SumS w wr D Z a c b d Q) (hr : LRow wr a' E.mag) (hn : Nob Q E a') :
    SumS w (((wr.setCell ⟨Q, 0, none⟩ (.bool E.neg)).setCell ⟨Q, 1, none⟩ (.slice a' E.mag.length c')).setCell ⟨Q, 2, none⟩ (.int .i64 E.exp)) E Z a' c' b d Q := by
  have m := h.lt
  have f6 : ∀ b' off, b = some ⟨b', off, none⟩ → Z.mag.length ≠ 0 → b' ≠ Q := fun b' off e l => by have := h.n6 b' off e l; omega
  exact ⟨((h.bel.setCell (p := ⟨Q, 0, none⟩) (by show w.heap.size ≤ Q; omega) _).setCell (p := ⟨Q, 1, none⟩) (by show w.heap.size ≤ Q; omega) _).setCell (p := ⟨Q, 2, none⟩) (by show w.heap.size ≤ Q; omega) _,
    h.h2.oth (by omega) _ _ _ (Or.inl rfl), h.z2.set _ _ _ _, h.h3.oth (by omega) _ _ _ (Or.inl rfl), h.z3.set _ _ _ _,
    put3n h.h5 hr (fun b' off e l => by have := hn b' off e l; omega), h.z5.set _ _ _ _,
    h.h6.oth (by omega) _ _ _ (((h.h6.row.setCell _ f6).setCell _ f6).setCell _ f6), h.z6.set _ _ _ _, hn, h.n6, m⟩
theorem SumS.put6 {w wr : World} {D Z E : Dy} {a b' : Option Addr} {c d' : Nat} {b : Option Addr} {d Q : Nat} (h : SumS w wr D Z a c b d Q) (hr : LRow wr b' E.mag) (hn : Nob Q E b') :
    SumS w (((wr.setCell ⟨Q + 1, 0, none⟩ (.bool E.neg)).setCell ⟨Q + 1, 1, none⟩ (.slice b' E.mag.length d')).setCell ⟨Q + 1, 2, none⟩ (.int .i64 E.exp)) D E a c b' d' Q := by
  have m := h.lt
  have f5 : ∀ b' off, a = some ⟨b', off, none⟩ → D.mag.length ≠ 0 → b' ≠ Q + 1 := fun b' off e l => by have := h.n5 b' off e l; omega
  exact ⟨((h.bel.setCell (p := ⟨Q + 1, 0, none⟩) (by show w.heap.size ≤ Q + 1; omega) _).setCell (p := ⟨Q + 1, 1, none⟩) (by show w.heap.size ≤ Q + 1; omega) _).setCell (p := ⟨Q + 1, 2, none⟩) (by show w.heap.size ≤ Q + 1; omega) _,
    h.h2.oth (by omega) _ _ _ (Or.inl rfl), h.z2.set _ _ _ _, h.h3.oth (by omega) _ _ _ (Or.inl rfl), h.z3.set _ _ _ _,
    h.h5.oth (by omega) _ _ _ (((h.h5.row.setCell _ f5).setCell _ f5).setCell _ f5), h.z5.set _ _ _ _,
    put3n h.h6 hr (fun b' off e l => by have := hn b' off e l; omega), h.z6.set _ _ _ _, h.n5, hn, m⟩
/-- What sum of the laws hands back of finite floats. -/
def GaveSum (w : World) (D Z : Dy) (e : Ending) (w' : World) : Prop :=
  ∃ a c b d, e = .returned (.tuple #[.agg #[.bool D.neg, .slice a D.mag.length c, .int .i64 D.exp], .agg #[.bool Z.neg, .slice b Z.mag.length d, .int .i64 Z.exp], .bool true]) ∧ LRow w' a D.mag ∧ LRow w' b Z.mag ∧ Below w.heap.size w w'
theorem int_zero : intD 0 = dy0 := by kernel_rfl
/-- The beginning: four boxes. -/
theorem SumS.new {w w1 : World} {a b : Option Addr} {c d : Nat} (hb : Below ((w.alloc (.cells #[.bool false, .slice none 0 0, .int .i64 0] 32)).alloc (.cells #[.bool false, .slice none 0 0, .int .i64 0] 32)).heap.size ((w.alloc (.cells #[.bool false, .slice none 0 0, .int .i64 0] 32)).alloc (.cells #[.bool false, .slice none 0 0, .int .i64 0] 32)) w1) :
    SumS w ((w1.alloc (.cells #[.bool false, .slice a 0 c, .int .i64 0] 32)).alloc (.cells #[.bool false, .slice b 0 d, .int .i64 0] 32)) dy0 dy0 a c b d w1.heap.size := by
  have s2 : ((w.alloc (.cells #[.bool false, .slice none 0 0, .int .i64 0] 32)).alloc (.cells #[.bool false, .slice none 0 0, .int .i64 0] 32)).heap.size = w.heap.size + 2 := by go_simp
  have hs := hb.size
  rw [s2] at hs
  have a1 := (Hd.new (w := w) (d := dy0) (ao := none) (cap := 0) (Or.inl rfl)).below (bal _ (.cells #[.bool false, .slice none 0 0, .int .i64 0] 32))
  have a2 := Hd.new (w := w.alloc (.cells #[.bool false, .slice none 0 0, .int .i64 0] 32)) (d := dy0) (ao := none) (cap := 0) (Or.inl rfl)
  have b1 := (fz_new w (.bool false) (.slice none 0 0) (.int .i64 0)).below (by simp) (bal _ (.cells #[.bool false, .slice none 0 0, .int .i64 0] 32))
  have b2 := fz_new (w.alloc (.cells #[.bool false, .slice none 0 0, .int .i64 0] 32)) (.bool false) (.slice none 0 0) (.int .i64 0)
  have e1 : (w.alloc (.cells #[.bool false, .slice none 0 0, .int .i64 0] 32)).heap.size = w.heap.size + 1 := by go_simp
  rw [e1] at a2 b2
  have a5 := (Hd.new (w := w1) (d := dy0) (ao := a) (cap := c) (Or.inl rfl)).below (bal _ (.cells #[.bool false, .slice b 0 d, .int .i64 0] 32))
  have a6 := Hd.new (w := w1.alloc (.cells #[.bool false, .slice a 0 c, .int .i64 0] 32)) (d := dy0) (ao := b) (cap := d) (Or.inl rfl)
  have b5 := (fz_new w1 (.bool false) (.slice a 0 c) (.int .i64 0)).below (by simp) (bal _ (.cells #[.bool false, .slice b 0 d, .int .i64 0] 32))
  have b6 := fz_new (w1.alloc (.cells #[.bool false, .slice a 0 c, .int .i64 0] 32)) (.bool false) (.slice b 0 d) (.int .i64 0)
  have e2 : (w1.alloc (.cells #[.bool false, .slice a 0 c, .int .i64 0] 32)).heap.size = w1.heap.size + 1 := by go_simp
  rw [e2] at a6 b6
  have B0 : Below w.heap.size w w1 := (bth3 (bal w _) (bal _ _)).trans (hb.mono (by omega))
  have BB := bth3 (bal w1 (.cells #[.bool false, .slice a 0 c, .int .i64 0] 32)) (bal _ (.cells #[.bool false, .slice b 0 d, .int .i64 0] 32))
  exact ⟨bth3 B0 BB, (a1.below hb).below BB, (b1.below (by omega) hb).below (by omega) BB, (a2.below hb).below BB, (b2.below (by omega) hb).below (by omega) BB, a5, b5, a6, b6, fun _ _ _ h => absurd rfl h, fun _ _ _ h => absurd rfl h, by omega⟩
set_option maxRecDepth 100000 in
set_option maxHeartbeats 8000000 in
theorem lsum_core (xs : List Nat) (ao : Option Addr) (cap : Nat) (Dx Dz T U : Nat → Dy) (w : World) (hT : TabW w) (hr : GRow w ao xs) (hF : FW xs) (hn : xs.length ≤ 1125899906842624)
    (hO : ∀ k, k < xs.length → ofD (xs.getD k 0) = (Dx k, 0) ∧ Lm (Dx k).mag ∧ ofD (rung (xs.getD k 0)) = (Dz k, 0) ∧ Lm (Dz k).mag) (hT0 : T 0 = dy0) (hU0 : U 0 = dy0)
    (hA : ∀ k, k < xs.length → addD (T k) (Dx k) = (T (k + 1), 0) ∧ addD (U k) (Dz k) = (U (k + 1), 0)) (hL : ∀ k, k ≤ xs.length → Lm (T k).mag ∧ Lm (U k).mag) :
    Calls Tryd.prog 6 #[.slice ao xs.length cap] w (GaveSum w (T xs.length) (U xs.length)) := by
  have oi := fun W h => Int_any 0 (by decide) (by decide) W h
  rw [int_zero] at oi
  go_enter Tryd.func6, Tryd.ntmps6
  go_upto_region 2 with (first
    | (go_at_call 21; refine (oi _ hT1).mono ?_; rintro e w2 ⟨a2, c2, rfl, _, _, x2⟩)
    | (go_at_call 21; refine (oi _ (tabW_alloc (tabW_alloc hT _) _)).mono ?_; rintro e w1 ⟨a1, c1, rfl, _, _, x1⟩; have hT1 := tabW_below (tabW_alloc (tabW_alloc hT _) _) x1))
  have S0 : SumS w ((w2.alloc (.cells #[.bool dy0.neg, .slice a1 dy0.mag.length c1, .int .i64 dy0.exp] 32)).alloc (.cells #[.bool dy0.neg, .slice a2 dy0.mag.length c2, .int .i64 dy0.exp] 32)) dy0 dy0 a1 c1 a2 c2 w2.heap.size := SumS.new (a := a1) (c := c1) (b := a2) (d := c2) (bth3 x1 x2)
  clear x1 x2 hT1 oi
  generalize (w2.alloc (.cells #[.bool dy0.neg, .slice a1 dy0.mag.length c1, .int .i64 dy0.exp] 32)).alloc (.cells #[.bool dy0.neg, .slice a2 dy0.mag.length c2, .int .i64 dy0.exp] 32) = W0 at *
  generalize w2.heap.size = Q at *
  go_wp2
  go_loopg [7] xs.length (fun g i wr => ∃ k : Nat, ∃ a c b d, k ≤ xs.length ∧ g = xs.length - k ∧ i = .int .i64 k ∧ Hid (SumS w wr (T k) (U k) a c b d Q))
  case atStart => exact ⟨0, a1, c1, a2, c2, Nat.zero_le _, rfl, rfl, by rw [hT0, hU0]; exact S0⟩
  case round =>
    obtain ⟨k, a, c, b, d, hk, hg, rfl, hS⟩ := hrel
    have HG : Hid (gk = xs.length - k) := hg
    clear hg S0
    by_cases hlt : k < xs.length
    · have S0 := hS.out
      rcases hr.below S0.bel with h | ⟨bx, off, rfl, hc⟩
      · omega
      · have T0 := tabW_below hT S0.bel
        have g1 := hc k hlt
        have gB := World.block_lt_of_cell? wr _ g1
        have hx := hF.at hlt
        obtain ⟨o1, o2, o3, o4⟩ := hO k hlt
        obtain ⟨q1, q2⟩ := hA k hlt
        obtain ⟨q3, q4⟩ := hL k hk
        have i1 : (k : Int) < (xs.length : Int) := by omega
        generalize xs.getD k 0 = x at *
        have ox := fun W h => Of_any x hx W h
        have oy := fun W h => Of_any (rung x) (Nat.lt_of_lt_of_le (rung_lt x) (by decide)) W h
        have ob := abs_any x hx
        rw [o1] at ox
        rw [o3] at oy
        have oa := fun ao bo cap bcap w h1 h2 h3 => Add_any (T k) (Dx k) ao bo cap bcap w h1 h2 q3 o2 h3
        have oc := fun ao bo cap bcap w h1 h2 h3 => Add_any (U k) (Dz k) ao bo cap bcap w h1 h2 q4 o4 h3
        rw [q1] at oa
        rw [q2] at oc
        clear hc hO hA hL hF o1 o3 q1 q2
        generalize Dx k = X at *
        generalize Dz k = Y at *
        generalize T k = D at *
        generalize U k = Z at *
        obtain ⟨D', hD'⟩ : ∃ D', T (k + 1) = D' := ⟨_, rfl⟩
        obtain ⟨Z', hZ'⟩ : ∃ Z', U (k + 1) = Z' := ⟨_, rfl⟩
        rw [hD'] at oa
        rw [hZ'] at oc
        have HDZ : Hid (T (k + 1) = D' ∧ U (k + 1) = Z') := ⟨hD', hZ'⟩
        clear hD' hZ'
        go_upto_region 6 with (go_at_call 22; refine (ox _ T0).mono ?_; rintro e w3 ⟨ax, cx, rfl, rx, fx, b3⟩)
        obtain ⟨V1, hV1⟩ : ∃ V, w3.alloc (.cells #[.bool X.neg, .slice ax X.mag.length cx, .int .i64 X.exp] 32) = V := ⟨_, rfl⟩
        have B1 : Below wr.heap.size wr V1 := by rw [← hV1]; exact bth3 b3 (bal _ _)
        have HX : Hd V1 w3.heap.size X ax cx := by rw [← hV1]; exact Hd.new rx
        rw [hV1]
        clear hV1 rx fx b3 ox
        have S1 := S0.below B1
        have T1 := tabW_below T0 B1
        have g2 : V1.cell? ⟨bx, off + k, none⟩ = some (.float .f64 x) := by rw [B1.cell gB]; exact g1
        clear S0 T0 g1 gB B1
        generalize w3.heap.size = PX at *
        go_upto_region 7 with (first
          | (go_at_call 23; refine (ob _).mono ?_; rintro e w' ⟨rfl, hw'⟩; subst w')
          | (go_at_call 22; refine (oy _ T1).mono ?_; rintro e w4 ⟨ay, cy, rfl, ry, fy, b4⟩))
        obtain ⟨V2, hV2⟩ : ∃ V, w4.alloc (.cells #[.bool Y.neg, .slice ay Y.mag.length cy, .int .i64 Y.exp] 32) = V := ⟨_, rfl⟩
        have B2 : Below V1.heap.size V1 V2 := by rw [← hV2]; exact bth3 b4 (bal _ _)
        have HY : Hd V2 w4.heap.size Y ay cy := by rw [← hV2]; exact Hd.new ry
        rw [hV2]
        have lY : Q + 1 < w4.heap.size := Nat.lt_of_lt_of_le S1.top b4.size
        have nY : Nob Q Y ay := nob_frs fy S1.top
        clear hV2 ry fy b4 oy ob
        have S2 := S1.below B2
        have T2 := tabW_below T1 B2
        replace HX := HX.below B2
        clear S1 T1 g2 B2
        generalize w4.heap.size = PY at *
        obtain ⟨p0, p1, p2, pr⟩ := id S2.h5
        obtain ⟨x0, x1, x2, xr⟩ := id HX
        have tp := S2.top
        go_upto_region 10 with (go_at_call 24; refine (oa _ _ _ _ _ pr xr T2).mono ?_; rintro e w5 ⟨ae, ce, rfl, re, fe, b5⟩; have S3 := S2.below b5; obtain ⟨p0, p1, p2, _⟩ := id S3.h5; obtain ⟨f0, f1, f2⟩ := id S3.z5)
        have S4 := S3.put5 (c' := ce) re (nob_frs fe tp)
        replace HY := HY.below b5
        have fq : ∀ b' off, ay = some ⟨b', off, none⟩ → Y.mag.length ≠ 0 → b' ≠ Q := fun b' off e l => by have := nY b' off e l; omega
        have HY4 := HY.oth (q := Q) (by omega) (.bool D'.neg) (.slice ae D'.mag.length ce) (.int .i64 D'.exp) (((HY.row.setCell _ fq).setCell _ fq).setCell _ fq)
        generalize ((w5.setCell ⟨Q, 0, none⟩ (.bool D'.neg)).setCell ⟨Q, 1, none⟩ (.slice ae D'.mag.length ce)).setCell ⟨Q, 2, none⟩ (.int .i64 D'.exp) = V3 at *
        have T4 := tabW_below hT S4.bel
        have tp4 := S4.top
        clear p0 p1 p2 pr x0 x1 x2 xr f0 f1 f2 S2 S3 T2 b5 HX HY fq re fe oa tp
        obtain ⟨p0, p1, p2, pr⟩ := id S4.h6
        obtain ⟨x0, x1, x2, xr⟩ := id HY4
        go_upto_region 11 with (go_at_call 24; refine (oc _ _ _ _ _ pr xr T4).mono ?_; rintro e w6 ⟨ag, cg, rfl, rg, fg, b6⟩; have S5 := S4.below b6; obtain ⟨p0, p1, p2, _⟩ := id S5.h6; obtain ⟨f0, f1, f2⟩ := id S5.z6)
        have S6 := S5.put6 (d' := cg) rg (nob_frs fg tp4)
        generalize ((w6.setCell ⟨Q + 1, 0, none⟩ (.bool Z'.neg)).setCell ⟨Q + 1, 1, none⟩ (.slice ag Z'.mag.length cg)).setCell ⟨Q + 1, 2, none⟩ (.int .i64 Z'.exp) = V4 at *
        clear p0 p1 p2 pr x0 x1 x2 xr f0 f1 f2 S4 S5 T4 b6 HY4 rg fg oc tp4 hT
        go_wp2
        go_roundg (xs.length - (k + 1))
        case measure => rw [HG.out]; omega
        case rel => exact ⟨k + 1, _, _, _, _, by omega, rfl, by go_num, by rw [HDZ.out.1, HDZ.out.2]; exact S6⟩
    · have ek : k = xs.length := by omega
      subst ek
      have S0 := hS.out
      have i1 : ¬ (xs.length : Int) < (xs.length : Int) := by omega
      clear hO hA hL hF hS
      obtain ⟨p0, p1, p2, pr⟩ := id S0.h5
      obtain ⟨x0, x1, x2, xr⟩ := id S0.h6
      obtain ⟨s0, s1, s2, _⟩ := id S0.h2
      obtain ⟨t0, t1, t2, _⟩ := id S0.h3
      obtain ⟨f0, f1, f2⟩ := id S0.z2
      obtain ⟨e0, e1, e2⟩ := id S0.z3
      have l1 := S0.lt
      have m1 : ¬ w.heap.size = w.heap.size + 1 := by omega
      have m2 : ¬ w.heap.size + 1 = w.heap.size := by omega
      have m3 : ¬ w.heap.size = Q := by omega
      have m4 : ¬ w.heap.size + 1 = Q := by omega
      have m5 : ¬ w.heap.size = Q + 1 := by omega
      have m6 : ¬ w.heap.size + 1 = Q + 1 := by omega
      have m7 : ¬ Q = w.heap.size := by omega
      have m8 : ¬ Q = w.heap.size + 1 := by omega
      have m9 : ¬ Q + 1 = w.heap.size := by omega
      have m0 : ¬ Q + 1 = w.heap.size + 1 := by omega
      generalize T xs.length = D at *
      generalize U xs.length = Z at *
      go_upto_region 13 with fail
      go_region
      all_goals
        go_wp2
        refine bodyPost_ret (v := .tuple #[.agg #[.bool D.neg, .slice a D.mag.length c, .int .i64 D.exp], .agg #[.bool Z.neg, .slice b Z.mag.length d, .int .i64 Z.exp], .bool true]) (by simp [results, Tryd.results6, go_sem, s0, s1, s2, t0, t1, t2]) rfl ⟨_, _, _, _, rfl, ?_, ?_, ?_⟩
        · have fa : ∀ b' off, a = some ⟨b', off, none⟩ → D.mag.length ≠ 0 → b' ≠ w.heap.size := fun b' off e l => by have := S0.n5 b' off e l; omega
          have fb : ∀ b' off, a = some ⟨b', off, none⟩ → D.mag.length ≠ 0 → b' ≠ w.heap.size + 1 := fun b' off e l => by have := S0.n5 b' off e l; omega
          refine LRow.below ?_ (Below.refl _ _).drew
          exact (((((pr.setCell _ fa).setCell _ fa).setCell _ fa).setCell _ fb).setCell _ fb).setCell _ fb
        · have fa : ∀ b' off, b = some ⟨b', off, none⟩ → Z.mag.length ≠ 0 → b' ≠ w.heap.size := fun b' off e l => by have := S0.n6 b' off e l; omega
          have fb : ∀ b' off, b = some ⟨b', off, none⟩ → Z.mag.length ≠ 0 → b' ≠ w.heap.size + 1 := fun b' off e l => by have := S0.n6 b' off e l; omega
          refine LRow.below ?_ (Below.refl _ _).drew
          exact (((((xr.setCell _ fa).setCell _ fa).setCell _ fa).setCell _ fb).setCell _ fb).setCell _ fb
        · have h0 : ∀ i, w.heap.size ≤ (⟨w.heap.size, i, none⟩ : Addr).block := fun _ => Nat.le_refl _
          have h1 : ∀ i, w.heap.size ≤ (⟨w.heap.size + 1, i, none⟩ : Addr).block := fun _ => Nat.le_succ _
          refine Below.drew ?_
          exact ((((((S0.bel.setCell (h0 0) _).setCell (h0 1) _).setCell (h0 2) _).setCell (h1 0) _).setCell (h1 1) _).setCell (h1 2) _)
theorem sizes_fin {xs : List Nat} (h : xs.all finB = true) : (xs.map rung).all finB = true := by
  rw [List.all_eq_true] at h ⊢
  intro y hy
  obtain ⟨x, hx, rfl⟩ := List.mem_map.1 hy
  have := fin_rung (h x hx)
  unfold finB
  rw [rung_small (rung_lt x)]
  exact decide_eq_true this
theorem sizes_at {xs : List Nat} {k : Nat} (hk : k < xs.length) : (xs.map rung).getD k 0 = rung (xs.getD k 0) := by
  simp [List.getD_eq_getElem?_getD, hk]
theorem lsum_fin (xs : List Nat) (ao : Option Addr) (cap : Nat) (w : World) (hT : TabW w) (hr : GRow w ao xs) (hF : FW xs) (hn : xs.length ≤ 1125899906842624) (hf : xs.all finB = true) :
    Calls Tryd.prog 6 #[.slice ao xs.length cap] w (GaveSum w (sD xs xs.length) (sD (xs.map rung) xs.length)) := by
  have hz := sizes_fin hf
  have hl : (xs.map rung).length = xs.length := List.length_map _
  refine lsum_core xs ao cap (fun k => (ofD (xs.getD k 0)).1) (fun k => (ofD (rung (xs.getD k 0))).1) (sD xs) (sD (xs.map rung)) w hT hr hF hn (fun k hk => ?_) (by unfold sD sI nrm; rw [if_pos rfl]) (by unfold sD sI nrm; rw [if_pos rfl]) (fun k hk => ⟨sD_add hf hn hk, ?_⟩) (fun k _ => ⟨nrm_lm _ _, nrm_lm _ _⟩)
  · obtain ⟨b1, _, b3, _⟩ := fq_qd (fin_at hf hk) (K := 64462) rfl
    obtain ⟨d1, _, d3, _⟩ := fq_qd (fin_at hz (by rw [hl]; exact hk)) (K := 64462) rfl
    rw [sizes_at hk] at d1 d3
    exact ⟨by rw [← b1], b3, by rw [← d1], d3⟩
  · rw [← sizes_at hk]
    exact sD_add hz (by rw [hl]; exact hn) (by rw [hl]; exact hk)
end Go.Proofs.YtfhejejfeffdcaaDoor
