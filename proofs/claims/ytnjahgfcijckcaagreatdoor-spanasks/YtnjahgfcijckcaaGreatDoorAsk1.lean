/- The document's Float, HasNum, Holds; the program's against, Holds. -/
import Derived.Test.YtnjahgfcijckcaaGreatDoorAsk0
import Derived.Test.YtnjahgfcijckcaaGreatDoorK3
import Derived.Test.YtnjahgfcijckcaaGreatDoorY6
import Derived.Test.YtnjahgfcijckcaaGreatDoorZo
import Derived.Deep.QuietTactic
import Derived.BigQuiet
namespace Go.Proofs.YtnjahgfcijckcaaGreatDoor
open Go.RowKit

/-- The document's number of a finite float. -/
def fl5 (x : Nat) : Dy := ⟨sgn x, lo (spF x), spE x⟩
def C3 (w : World) (b : Nat) (x y z : Value) : Prop := w.cell? ⟨b, 0, none⟩ = some x ∧ w.cell? ⟨b, 1, none⟩ = some y ∧ w.cell? ⟨b, 2, none⟩ = some z ∧ w.frozen? ⟨b, 0, none⟩ = false ∧ w.frozen? ⟨b, 1, none⟩ = false ∧ w.frozen? ⟨b, 2, none⟩ = false ∧ b < w.heap.size
theorem C3.below {w w1 : World} {b : Nat} {x y z : Value} (h : C3 w b x y z) (hb : Below w.heap.size w w1) : C3 w1 b x y z := by
  obtain ⟨h0, h1, h2, g0, g1, g2, h5⟩ := h
  obtain ⟨hc, hf⟩ := oldc hb
  exact ⟨by rw [hc _ _ h5]; exact h0, by rw [hc _ _ h5]; exact h1, by rw [hc _ _ h5]; exact h2, by rw [hf _ _ h5]; exact g0, by rw [hf _ _ h5]; exact g1, by rw [hf _ _ h5]; exact g2, Nat.lt_of_lt_of_le h5 hb.size⟩
theorem C3.alloc {w : World} {b : Nat} {x y z : Value} (h : C3 w b x y z) (o : Obj) : C3 (w.alloc o) b x y z := h.below ((Below.refl _ _).alloc (Nat.le_refl _) o)
theorem C3.new (w : World) (x y z : Value) (t : TypeId) : C3 (w.alloc (.cells #[x, y, z] t)) w.heap.size x y z := by
  refine ⟨?_, ?_, ?_, ?_, ?_, ?_, ?_⟩ <;> go_simp
theorem C3.newAt {w : World} {n : Nat} (hn : w.heap.size = n) (x y z : Value) (t : TypeId) : C3 (w.alloc (.cells #[x, y, z] t)) n x y z := by subst hn; exact C3.new w x y z t
theorem spF_lt (x : Nat) : spF x < 9007199254740992 := by
  unfold spF
  split
  · omega
  · have := mg_lt (rung x)
    exact Nat.lt_of_le_of_lt (Nat.div_le_self _ _) this
set_option maxHeartbeats 2000000 in
theorem nflt_any (x : Nat) (hx : x < 18446744073709551616) (hf : finB x = true) (w : World) : Calls Tryz.prog 64 #[.float .f64 x] w (GaveM w (fl5 x)) := by
  have cS := fun W => rsplit_fin x hx hf W
  have bF : spF x < 9007199254740992 := spF_lt x
  show Calls Tryz.prog 64 #[.float .f64 x] w (GaveM w ⟨sgn x, lo (spF x), spE x⟩)
  generalize sgn x = s at *
  generalize spF x = F at *
  generalize spE x = E at *
  have hN := fun W => natOf_any F (by omega) W
  have r0 : C3 (w.alloc (.cells #[.bool false, .slice none 0 0, .int .i64 0] 55)) w.heap.size (.bool false) (.slice none 0 0) (.int .i64 0) := C3.newAt rfl _ _ _ _
  go_enter Tryz.func64, Tryz.ntmps64
  go_upto_region 2 with (go_at_call 90; refine (cS _).mono ?_; rintro e w1 ⟨rfl, b1⟩)
  have n1 := (r0.below b1).alloc (.cells #[.bool s, .int .u64 F, .int .i64 E] 84)
  have q1 := C3.new w1 (.bool s) (.int .u64 F) (.int .i64 E) 84
  have bs := b1.size
  have hBw : Below w.heap.size w (w1.alloc (.cells #[.bool s, .int .u64 F, .int .i64 E] 84)) := by
    have b0 : Below w.heap.size w w1 := ((Below.refl _ w).alloc (Nat.le_refl _) _).trans (b1.mono (by simp))
    exact b0.alloc b0.size _
  have hs1 : (w1.alloc (.cells #[.bool s, .int .u64 F, .int .i64 E] 84)).heap.size = w1.heap.size + 1 := by simp
  have hlt : w.heap.size < w1.heap.size := by simp at bs; omega
  generalize w1.heap.size = G at *
  generalize w1.alloc (.cells #[.bool s, .int .u64 F, .int .i64 E] 84) = V at *
  obtain ⟨c0, c1, c2, _⟩ := id q1
  clear cS b1 bs r0
  have q5 : ¬ G = w.heap.size := by omega
  have q6 : ¬ w.heap.size = G := by omega
  go_region_held3 (fun w' => w'.cell? ⟨G, 0, none⟩ = some (.bool s) ∧ w'.cell? ⟨G, 1, none⟩ = some (.int .u64 F) ∧ w'.cell? ⟨G, 2, none⟩ = some (.int .i64 E)) (go_keep)
    (first | (go_at_call 91; refine (hN _).mono ?_; rintro e w2 ⟨ao1, cap1, rfl, h1, f1, b2⟩; replace b2 := undrew b2; obtain ⟨e0, e1, e2, k0, k1, k2, _⟩ := n1.below b2; obtain ⟨g0, g1, g2, _⟩ := q1.below b2))
  clear c0 c1 c2 g0 g1 g2
  have hfr : Frs (G + 1) ao1 := f1.mono (by simp [hs1])
  have hB2 : Below w.heap.size w w2 := hBw.trans (b2.mono hBw.size)
  go_wp2
  refine bodyPost_ret (v := .agg #[.bool s, .slice ao1 (lo F).length cap1, .int .i64 E]) (by simp [results, Tryz.results64, go_sem, e0, e1, e2]) rfl ⟨ao1, cap1, rfl, ?_, hfr.mono (by omega), ((hB2.setCell (by simp) _).setCell (by simp) _).setCell (by simp) _⟩
  exact ⟨((h1.1.box hfr (by omega) _ _).box hfr (by omega) _ _).box hfr (by omega) _ _, h1.2⟩
theorem fl5_ok (x : Nat) (hf : finB x = true) : Lm (fl5 x).mag ∧ (fl5 x).mag.length ≤ 1 ∧ -65536 ≤ (fl5 x).exp ∧ (fl5 x).exp ≤ 65536 := by
  have h1 := spF_lt x
  have hL : Lm [spF x] := fun y hy => by simp at hy; omega
  have h2 := lo_len hL
  rw [show vl [spF x] = spF x by simp [vl]] at h2
  refine ⟨lo_lm _, h2, ?_, ?_⟩
  · show -65536 ≤ spE x
    unfold spE; split <;> omega
  · show spE x ≤ 65536
    have hr := fin_rung hf
    have hz : spZ x ≤ 64 := by
      unfold spZ Lib.ctz
      split
      · omega
      · have h0 : mg (rung x) ≠ 0 := by assumption
        obtain ⟨_, _, h⟩ := Lib.ctzFrom_spec 64 (mg (rung x)) (by omega) (by have := mg_lt (rung x); omega)
        omega
    have hu : up (rung x) < 2046 := by unfold up; split <;> omega
    unfold spE; split <;> omega
/-- A later world. -/
structure LQ (W : World) where
  val : World
  below : Below W.heap.size W val
theorem region_lq {P : Program} {id : Nat} {Q : Exit → Act → World → Prop} {a : Act} {w : World} {l : List Oper} (hm : P.follows .mixedOrders = true) (hB : Region.lexB .any l.toArray = true)
    (h : wpQuiet P l.toArray (fun w' => ∃ u : LQ w, w' = u.val) (fun a' => ∀ w', (∃ u : LQ w, w' = u.val) → Q .normal a' w') l a) : (Code.region id l.toArray true).wp P Q a w :=
  wp_region_quiet (C := fun w' => ∃ u : LQ w, w' = u.val) hm hB ⟨⟨w.drew, (Below.refl _ _).drew⟩, rfl⟩ h
theorem lq_of {P : Program} {f : Nat} {args : Array Value} {W : World} {u : LQ W} {v : Value} (h : Calls P f args u.val fun e w' => e = .returned v ∧ Below u.val.heap.size u.val w') : Calls P f args u.val fun e w'' => e = .returned v ∧ ∃ u' : LQ W, w'' = u'.val :=
  h.mono fun _ w' ⟨he, hb⟩ => ⟨he, ⟨w', u.below.trans (hb.mono u.below.size)⟩, rfl⟩
theorem LQ.cell {W : World} (u : LQ W) {p : Addr} {v : Value} (h : W.cell? p = some v) : u.val.cell? p = some v := by
  rw [u.below.cell (World.block_lt_of_cell? W _ h)]; exact h
theorem LQ.any (W : World) : Nonempty (LQ W) := ⟨⟨W, Below.refl _ _⟩⟩
/-- Is an exact number one of a right span? -/
def hnB (l u : Nat) (D : Dy) : Bool := (!finB l || decide (¬ 0 < sgI (qd (fl5 l) - qd D))) && (!finB u || decide (sgI (qd D - qd (fl5 u)) ≤ 0))
set_option maxRecDepth 100000 in
set_option maxHeartbeats 4000000 in
theorem hasnum_any (l u : Nat) (n : Bool) (xs : List Nat) (ex : Int) (ao : Option Addr) (cap : Nat) (w : World) (hl : l < 18446744073709551616) (hu : u < 18446744073709551616) (hr : NS w ao cap xs) (hL : Lm xs) (hn : xs.length ≤ 1000000) (x1 : -65536 ≤ ex) (x2 : ex ≤ 65536) :
    Calls Tryz.prog 43 #[spV l u, .agg #[.bool n, .slice ao xs.length cap, .int .i64 ex]] w fun e w' => e = .returned (.bool (hnB l u ⟨n, xs, ex⟩)) ∧ Below w.heap.size w w' := by
  have fl := fun W => rfin5_any l hl W
  have fu := fun W => rfin5_any u hu W
  have HB : Hid (hnB l u ⟨n, xs, ex⟩ = ((!finB l || decide (¬ 0 < sgI (qd (fl5 l) - qd ⟨n, xs, ex⟩))) && (!finB u || decide (sgI (qd ⟨n, xs, ex⟩ - qd (fl5 u)) ≤ 0)))) := (show _ = _ from rfl)
  have Nl := fun (h : finB l = true) W => nflt_any l hl h W
  have Nu := fun (h : finB u = true) W => nflt_any u hu h W
  have Cl := fun (h : finB l = true) o1 c1 W (h1 : NS W o1 c1 (fl5 l).mag) (h2 : NS W ao cap xs) => compare_any (fl5 l) ⟨n, xs, ex⟩ o1 ao c1 cap W h1 h2 (fl5_ok l h).1 hL (by have := (fl5_ok l h).2.1; omega) hn (fl5_ok l h).2.2.1 (fl5_ok l h).2.2.2 x1 x2
  have Cu := fun (h : finB u = true) o1 c1 W (h1 : NS W o1 c1 (fl5 u).mag) (h2 : NS W ao cap xs) => compare_any ⟨n, xs, ex⟩ (fl5 u) ao o1 cap c1 W h2 h1 hL (fl5_ok u h).1 hn (by have := (fl5_ok u h).2.1; omega) x1 x2 (fl5_ok u h).2.2.1 (fl5_ok u h).2.2.2
  generalize sgI (qd (fl5 l) - qd ⟨n, xs, ex⟩) = gl at *
  generalize sgI (qd ⟨n, xs, ex⟩ - qd (fl5 u)) = gu at *
  generalize hnB l u ⟨n, xs, ex⟩ = T at *
  generalize fl5 l = L at *
  generalize fl5 u = U at *
  obtain ⟨ln, lm, le⟩ := L
  obtain ⟨un, um, ue⟩ := U
  simp only at *
  clear hL hn x1 x2
  have P0 : Bx ((w.alloc (.cells #[.float .f64 l, .float .f64 u] 24)).alloc (.cells #[.bool n, .slice ao xs.length cap, .int .i64 ex] 55)) w.heap.size (.float .f64 l) (.float .f64 u) := (Bx.new w _ _ _).alloc _
  have Q0 : C3 ((w.alloc (.cells #[.float .f64 l, .float .f64 u] 24)).alloc (.cells #[.bool n, .slice ao xs.length cap, .int .i64 ex] 55)) (w.heap.size + 1) (.bool n) (.slice ao xs.length cap) (.int .i64 ex) := C3.newAt (by go_simp) _ _ _ _
  have Z0 : Below w.heap.size w ((w.alloc (.cells #[.float .f64 l, .float .f64 u] 24)).alloc (.cells #[.bool n, .slice ao xs.length cap, .int .i64 ex] 55)) := ((Below.refl _ _).alloc (Nat.le_refl _) _).alloc (by simp) _
  have R0 := hr.below Z0
  go_enter Tryz.func43, Tryz.ntmps43
  go_upto_region 1 with fail
  generalize (w.alloc (.cells #[.float .f64 l, .float .f64 u] 24)).alloc (.cells #[.bool n, .slice ao xs.length cap, .int .i64 ex] 55) = W at *
  obtain ⟨p, hp⟩ : ∃ p, w.heap.size = p := ⟨_, rfl⟩
  obtain ⟨q, hq⟩ : ∃ q, w.heap.size + 1 = q := ⟨_, rfl⟩
  rw [hp] at P0
  rw [hq] at Q0 ⊢
  rw [show (Value.pointer (some ⟨w.heap.size, 0, none⟩)) = Value.pointer (some ⟨p, 0, none⟩) by rw [hp]]
  clear hp hq
  go_cut [15] from 5 (fun s15 wx => s15 = .bool (finB l && decide (0 < gl)) ∧ Below W.heap.size W wx)
  case first =>
    obtain ⟨ka0, ka1, _⟩ := id P0
    obtain ⟨kc0, kc1, kc2, _⟩ := id Q0
    cases f : finB l
    · rw [f] at fl
      have hne : Nonempty (LQ W) := LQ.any _
      have k0 : ∀ u : LQ W, u.val.cell? ⟨p, 0, none⟩ = some (.float .f64 l) := fun u => u.cell ka0
      refine region_lq (by kernel_rfl) (by kernel_rfl) ?_
      repeat (quiet_step ((go_at_call 41; exact lq_of (fl _))))
      refine wpQuiet_nil ?_
      intro w' hw'
      obtain ⟨v, rfl⟩ := hw'
      have z1 := v.below
      go_wp2
      go_meet
      case rel => exact ⟨by rw [f]; rfl, z1⟩
    · rw [f] at fl
      go_region_with (first
        | (go_at_call 41; refine (fl _).mono ?_; rintro e v1 ⟨rfl, y1⟩; have z1 := undrew y1; obtain ⟨ka0, ka1, _⟩ := P0.below z1; obtain ⟨kc0, kc1, kc2, _⟩ := Q0.below z1)
        | (go_at_call 64; refine (Nl f _).mono ?_; rintro e v2 ⟨oa, ca, rfl, ua, fa, y2⟩; have z2 := z1.trans (y2.mono z1.size); obtain ⟨ka0, ka1, _⟩ := P0.below z2; obtain ⟨kc0, kc1, kc2, _⟩ := Q0.below z2)
        | (go_at_call 63; refine (Cl f _ _ _ ua (R0.below z2)).mono ?_; rintro e v3 ⟨rfl, y3⟩; have z3 := z2.trans (y3.mono z2.size)))
      all_goals
        go_wp2
        go_meet
        case rel => exact ⟨by rw [f]; rfl, z3⟩
  case rest =>
    obtain ⟨rfl, zc⟩ := hcut
    have P1 := P0.below zc
    have Q1 := Q0.below zc
    have R1 := R0.below zc
    have Z1 := Z0.trans (zc.mono Z0.size)
    obtain ⟨ka0, ka1, _⟩ := id P1
    obtain ⟨kc0, kc1, kc2, _⟩ := id Q1
    clear P0 Q0 R0 Z0 zc
    have HB2 : Hid (T = (!(finB l && decide (0 < gl)) && (!finB u || decide (gu ≤ 0)))) := (show _ = _ by rw [HB.out, decide_not]; cases finB l <;> rfl)
    clear HB
    generalize (finB l && decide (0 < gl)) = g at *
    cases g
    · go_upto_region 3 with fail
      cases f : finB u
      · rw [f] at fu HB2
        have hne : Nonempty (LQ wc) := LQ.any _
        have k0 : ∀ v : LQ wc, v.val.cell? ⟨p, 1, none⟩ = some (.float .f64 u) := fun v => v.cell ka1
        refine region_lq (by kernel_rfl) (by kernel_rfl) ?_
        repeat (quiet_step ((go_at_call 41; exact lq_of (fu _))))
        refine wpQuiet_nil ?_
        intro w' hw'
        obtain ⟨v, rfl⟩ := hw'
        have z1 := v.below
        go_wp2
        go_ret
        exact ⟨retB (by rw [HB2.out]; rfl), Z1.trans (z1.mono Z1.size)⟩
      · rw [f] at fu HB2
        go_region_with (first
          | (go_at_call 41; refine (fu _).mono ?_; rintro e v1 ⟨rfl, y1⟩; have z1 := undrew y1; obtain ⟨ka0, ka1, _⟩ := P1.below z1; obtain ⟨kc0, kc1, kc2, _⟩ := Q1.below z1)
          | (go_at_call 64; refine (Nu f _).mono ?_; rintro e v2 ⟨oa, ca, rfl, ua, fa, y2⟩; have z2 := z1.trans (y2.mono z1.size); obtain ⟨ka0, ka1, _⟩ := P1.below z2; obtain ⟨kc0, kc1, kc2, _⟩ := Q1.below z2)
          | (go_at_call 63; refine (Cu f _ _ _ ua (R1.below z2)).mono ?_; rintro e v3 ⟨rfl, y3⟩; have z3 := z2.trans (y3.mono z2.size)))
        all_goals
          go_wp2
          go_ret
          exact ⟨retB (by rw [HB2.out]; simp), Z1.trans (z3.mono Z1.size)⟩
    · go_wp2
      go_ret
      exact ⟨retB (by rw [HB2.out]; rfl), Z1⟩
end Go.Proofs.YtnjahgfcijckcaaGreatDoor
