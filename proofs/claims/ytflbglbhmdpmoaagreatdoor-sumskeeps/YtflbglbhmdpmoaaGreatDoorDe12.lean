/- For SumsKeeps' walk: a copy of numbers that were lent, and a list laid over them. -/
import Derived.Test.YtflbglbhmdpmoaaGreatDoorDe7
import Derived.Test.YtflbglbhmdpmoaaGreatDoorBn
import Derived.Test.YtflbglbhmdpmoaaGreatDoorZ14
import Derived.Test.YtflbglbhmdpmoaaGreatDoorMx13
namespace Go.Proofs.YtflbglbhmdpmoaaGreatDoor
open Go.RowKit

/-- A list handed back. -/
def GaveK (w : World) (xs : List Nat) (e : Ending) (w' : World) : Prop := ∃ bo bc, e = .returned (.slice bo xs.length bc) ∧ GRow w' bo xs ∧ xs.length ≤ bc ∧ bc ≤ 9223372036854775807 ∧ Below w.heap.size w w'
set_option maxHeartbeats 1000000 in
theorem copyL_any (xs : List Nat) (g cap : Nat) (w : World) (hl : LentF w g xs) (hn : xs.length ≤ 4096) :
    Calls Tryz.prog 14 #[.slice (some ⟨g, 0, none⟩) xs.length cap] w fun e w' => GaveK w xs e w' := by
  obtain ⟨i0, hi, hz0, hz1, hz2⟩ := info_parts Tryz.infoF
  have hO : w.ownsRow w.heap.size 26 1 (.slice none 0 0) 0 [] := World.ownsRow_nil _ _ _ _
  have hnews : ∀ j u, (fv xs)[j]? = some u → w.cell? ((⟨g, 0, none⟩ : Addr).add j) = some u := fun j u hu => by
    have hj : j < xs.length := by
      have := (List.getElem?_eq_some_iff.1 hu).1
      rw [fv_length] at this; exact this
    rw [fv_at hj] at hu
    cases hu
    have := hl.cell (show j < xs.length + 12 by omega)
    rw [lentF_low hj] at this
    unfold Addr.add
    split
    · rename_i h; subst h; exact this
    · simpa using this
  have hfin : ∀ (v' : Value) (w1 : World), w1.ownsRow w.heap.size 26 1 v' (0 + xs.length) ([] ++ fv xs) → ∃ bo bc, v' = .slice bo xs.length bc ∧ GRow w1 bo xs ∧ xs.length ≤ bc ∧ bc ≤ 9223372036854775807 := fun v' w1 h => by
    rw [Nat.zero_add, List.nil_append] at h
    obtain ⟨bo, bc, q1, q2, q3, _⟩ := owned_grow h
    refine ⟨bo, bc, q1, q2, q3, ?_⟩
    rcases h.2 with ⟨e, _⟩ | ⟨g', c', cur, e, _, _, _, hm, _⟩
    · rw [q1] at e
      simp only [Value.slice.injEq] at e
      omega
    · rw [q1] at e
      simp only [Value.slice.injEq] at e
      unfold maxLen at hm
      omega
  clear hl
  go_enter Tryz.func14, Tryz.ntmps14
  go_wp2_with (at_builtin; refine wpList_append_own _ rfl _ _ 22 rfl w.heap.size 26 i0 (.float .f64 0) 1 8 Tryz.underlying22 hi hz0 hz1 hz2 rfl (by decide) _ _ _ rfl hO ⟨g, 0, none⟩ xs.length cap (fv xs) rfl (by rw [fv_length, Nat.mul_one]) hnews (fv_one xs) (by unfold maxLen; omega) (by omega) (Nat.le_refl _) ?_; intro v' w1 hown1 hgrow _)
  obtain ⟨bo, bc, rfl, q1, q2, q3⟩ := hfin _ _ hown1
  have hb2 : Below w.heap.size w w1 := (Below.refl _ _).grown hgrow (Nat.le_refl _) (fun k hk => by cases hk)
  clear hown1 hfin hgrow
  go_wp2
  exact bodyPost_ret (v := .slice bo xs.length bc) (by simp [results, Tryz.results14, go_sem]) rfl ⟨bo, bc, rfl, q1, q2, q3, hb2⟩
theorem LentF.put {w : World} {g : Nat} {xs : List Nat} (h : LentF w g xs) {o : Nat} (ho : o < xs.length) (y : Nat) : LentF (w.setCell ⟨g, o, none⟩ (.float .f64 y)) g (xs.set o y) := by
  have k := (World.ownsRow.stored h o (.float .f64 y)).1
  have e : (fv (xs ++ mkL 12)).set o (.float .f64 y) = fv (xs.set o y ++ mkL 12) := by
    unfold fv
    rw [← List.set_append_left _ _ ho, List.map_set]
  rw [e] at k
  unfold LentF
  rw [List.length_set]
  exact k
theorem LentF.over {g : Nat} : ∀ (ys : List Nat) {w : World} {xs : List Nat} (o : Nat), LentF w g xs → FW xs → FW ys → o + ys.length ≤ xs.length → ∃ zs, zs.length = xs.length ∧ FW zs ∧ LentF (w.setCells g o (fv ys)) g zs
  | [], w, xs, o, h, hF, _, _ => ⟨xs, rfl, hF, h⟩
  | y :: r, w, xs, o, h, hF, hG, hn => by
    have hy := hG y (by simp)
    obtain ⟨zs, e, f, k⟩ := LentF.over r (o + 1) (h.put (o := o) (by simp at hn; omega) y) (fun x hx => by
      rcases List.mem_or_eq_of_mem_set hx with hx | rfl
      · exact hF x hx
      · exact hy) (fun x hx => hG x (by simp [hx])) (by simp at hn ⊢; omega)
    exact ⟨zs, by rw [e, List.length_set], f, k⟩
theorem below_sc {B b : Nat} {a : World} (hb : B ≤ b) : ∀ (vs : List Value) (o : Nat) {w : World}, Below B a w → Below B a (w.setCells b o vs)
  | [], _, _, h => h
  | v :: r, o, _, h => below_sc hb r (o + 1) (h.setCell (p := ⟨b, o, none⟩) hb v)
/-- The second list, laid over the lent one. -/
theorem lay_over {wr w : World} {g cap cap2 : Nat} {xs ks : List Nat} {ko : Option Addr} (hb : Below w.heap.size w wr) (hg : w.heap.size ≤ g) (hl : LentF wr g xs) (hF : FW xs) (hk : GRow wr ko ks) (hG : FW ks) :
    ∃ w2 zs, (∀ ty, (Builtin.copy_ #[22, 22] ty #[.slice (some ⟨g, 0, none⟩) xs.length cap, .slice ko ks.length cap2]).run Tryz.prog wr = .ok (goInt (Nat.min ks.length xs.length)) w2) ∧ zs.length = xs.length ∧ FW zs ∧ LentF w2 g zs ∧ Below w.heap.size w w2 := by
  by_cases h0 : Nat.min ks.length xs.length = 0
  · refine ⟨wr, xs, fun ty => ?_, rfl, hF, hl, hb⟩
    rw [run_copy_none wr 22 22 ty 26 _ _ _ _ _ _ Tryz.underlying22 (by kernel_rfl) h0, h0]
    rfl
  · rcases hk with h | ⟨b, off, rfl, hc⟩
    · rw [h] at h0; simp at h0
    have hmin : (ks.take xs.length).length = Nat.min ks.length xs.length := by rw [List.length_take]; exact Nat.min_comm _ _
    obtain ⟨zs, e, f, k⟩ := LentF.over (ks.take xs.length) 0 hl hF (hG.take _) (by rw [List.length_take]; omega)
    refine ⟨_, zs, fun ty => ?_, e, f, k, below_sc hg _ _ hb⟩
    have := run_copy_cells (P := Tryz.prog) wr 22 22 ty 26 g 0 xs.length cap ⟨b, off, none⟩ ks.length cap2 (fv (ks.take xs.length)) Tryz.underlying22 (by kernel_rfl) (by rw [fv_length, hmin]) (fun p v hv => by
        have hp : p < (ks.take xs.length).length := by
          have := (List.getElem?_eq_some_iff.1 hv).1
          rw [fv_length] at this; exact this
        rw [fv_at hp] at hv
        cases hv
        have hp2 : p < ks.length ∧ p < xs.length := by rw [List.length_take] at hp; omega
        have := hc p hp2.1
        rw [show (ks.take xs.length).getD p 0 = ks.getD p 0 by rw [List.getD_eq_getElem?_getD, List.getD_eq_getElem?_getD, List.getElem?_take_of_lt hp2.2]]
        unfold Addr.add
        split
        · rename_i h; subst h; exact this
        · exact this) (fun p hp => by
        rw [fv_length, List.length_take] at hp
        rw [Nat.zero_add, hl.cell (show p < xs.length + 12 by omega)]
        rfl) (fun p hp => by rw [Nat.zero_add]; exact World.ownsRow.frozenAt hl p) (fv_one _)
    rw [fv_length, hmin] at this
    exact this
/-- Numbers lent, their copy, the table: what every call leaves. -/
structure KW (w : World) (A : Nat) (X : List Nat) (bo : Option Addr) (W : World) : Prop where
  l : LentF W A X
  g : GRow W bo X
  t : TabW W
  b : Below w.heap.size w W
theorem KW.later {w : World} {A : Nat} {X : List Nat} {bo : Option Addr} {W W' : World} (h : KW w A X bo W) (hb : Below W.heap.size W W') : KW w A X bo W' := ⟨h.l.below hb, h.g.below hb, tabW_below h.t hb, h.b.trans (hb.mono h.b.size)⟩
theorem kx_ex (X : List Nat) (N A : Nat) (m : Int) (hN : X.length = N) (hF : FW X) (hn : N ≤ 4096) : ∃ (x : Nat) (z : Int), x < 18446744073709551616 ∧
    (∀ W, TabW W → GRow W (some ⟨A, 0, none⟩) X → Calls Tryz.prog 15 #[.slice (some ⟨A, 0, none⟩) N (N + 12), .int .i8 m] W fun e w' => e = .returned (.tuple #[.float .f64 x, .int .i64 z]) ∧ Below W.heap.size W w') ∧
    (∀ W bo bc, GRow W bo X → Calls Tryz.prog 16 #[.slice bo N bc, .int .i8 m] W fun e w' => e = .returned (.tuple #[.float .f64 x, .int .i64 z]) ∧ Below W.heap.size W w') := by
  subst hN
  refine ⟨_, _, ?_, fun W h1 h2 => exact_any X _ _ m W h1 h2 hF (by omega), fun W bo bc h => rexact_any X bo bc m W h hF (by omega)⟩
  cases hf : X.all finB
  · simp
  · simp only [if_true]; exact exW_lt hf (by omega) m
theorem kx_dx (X : List Nat) (N A : Nat) (m : Int) (hN : X.length = N) (hF : FW X) (hn : N ≤ 4096) : ∃ (x : Nat) (z : Int), x < 18446744073709551616 ∧
    (∀ W, TabW W → GRow W (some ⟨A, 0, none⟩) X → Calls Tryz.prog 9 #[.slice (some ⟨A, 0, none⟩) N (N + 12), .slice (some ⟨A, 0, none⟩) N (N + 12), .int .i8 m] W fun e w' => e = .returned (.tuple #[.float .f64 x, .int .i64 z]) ∧ Below W.heap.size W w') ∧
    (∀ W bo bc, GRow W bo X → Calls Tryz.prog 10 #[.slice bo N bc, .slice bo N bc, .int .i8 m] W fun e w' => e = .returned (.tuple #[.float .f64 x, .int .i64 z]) ∧ Below W.heap.size W w') := by
  subst hN
  exact ⟨_, _, dxA_lt X X m, fun W h1 h2 => dotx_any X X _ _ _ _ m W h1 h2 h2 hF hF (by omega) (by omega), fun W bo bc h => rdotx_any X X bo bo bc bc m W h h hF hF (by omega) (by omega)⟩
theorem kx_nr (X : List Nat) (N A : Nat) (hN : X.length = N) (hF : FW X) (hn : N ≤ 4096) : ∃ (x y : Nat) (z : Int),
    (∀ W, TabW W → GRow W (some ⟨A, 0, none⟩) X → Calls Tryz.prog 17 #[.slice (some ⟨A, 0, none⟩) N (N + 12)] W fun e w' => e = .returned (.tuple #[.float .f64 x, .float .f64 y, .int .i64 z]) ∧ x < 18446744073709551616 ∧ y < 18446744073709551616 ∧ Below W.heap.size W w') ∧
    (∀ W bo bc, GRow W bo X → Calls Tryz.prog 18 #[.slice bo N bc] W fun e w' => e = .returned (.tuple #[.float .f64 x, .float .f64 y, .int .i64 z]) ∧ Below W.heap.size W w') := by
  subst hN
  exact ⟨_, _, _, fun W h1 h2 => snear_any X _ _ W h1 h2 hF hn, fun W bo bc h => rnear_any X bo bc W h hF hn⟩
theorem kx_dt (X : List Nat) (N A : Nat) (hN : X.length = N) (hF : FW X) (hn : N ≤ 4096) : ∃ (o : Option Nat) (z : Int),
    (∀ W, GRow W (some ⟨A, 0, none⟩) X → Calls Tryz.prog 7 #[.slice (some ⟨A, 0, none⟩) N (N + 12), .slice (some ⟨A, 0, none⟩) N (N + 12)] W fun e w' => ∃ r, e = .returned (.tuple #[.float .f64 r, .int .i64 z]) ∧ NR o r ∧ Below W.heap.size W w') ∧
    (∀ W bo bc, GRow W bo X → Calls Tryz.prog 8 #[.slice bo N bc, .slice bo N bc] W fun e w' => ∃ r, e = .returned (.tuple #[.float .f64 r, .int .i64 z]) ∧ NR o r ∧ Below W.heap.size W w') := by
  subst hN
  exact ⟨_, _, fun W h => pdot_all X X _ _ _ _ W h h hF hF (by omega), fun W bo bc h => rdot_all X X bo bo bc bc W h h hF hF (by omega)⟩
theorem kx_nv (X : List Nat) (N A : Nat) (hN : X.length = N) (hF : FW X) (hn : N ≤ 4096) : ∃ (o : Option Nat),
    (∀ W, GRow W (some ⟨A, 0, none⟩) X → Calls Tryz.prog 19 #[.slice (some ⟨A, 0, none⟩) N (N + 12)] W fun e w' => ∃ r, e = .returned (.float .f64 r) ∧ NR o r ∧ Below W.heap.size W w') ∧
    (∀ W bo bc, GRow W bo X → Calls Tryz.prog 20 #[.slice bo N bc] W fun e w' => ∃ r, e = .returned (.float .f64 r) ∧ NR o r ∧ Below W.heap.size W w') := by
  subst hN
  exact ⟨_, fun W h => naive_any X _ _ W h hF (by omega), fun W bo bc h => rnaive_any X bo bc W h hF (by omega)⟩
theorem kx_pw (X : List Nat) (N A : Nat) (hN : X.length = N) (hF : FW X) (hn : N ≤ 4096) : ∃ (o : Option Nat),
    (∀ W, GRow W (some ⟨A, 0, none⟩) X → Calls Tryz.prog 21 #[.slice (some ⟨A, 0, none⟩) N (N + 12)] W fun e w' => ∃ r, e = .returned (.float .f64 r) ∧ NR o r ∧ Below W.heap.size W w') ∧
    (∀ W bo bc, GRow W bo X → N ≤ bc → bc ≤ 9223372036854775807 → Calls Tryz.prog 22 #[.slice bo N bc] W fun e w' => ∃ r, e = .returned (.float .f64 r) ∧ NR o r ∧ Below W.heap.size W w') := by
  subst hN
  exact ⟨_, fun W h => pair_any 4096 X _ _ W hn h hF (by omega) (by omega), fun W bo bc h h1 h2 => rpair_any 4096 X bo bc W hn h hF h1 h2⟩
theorem kx_kp (X : List Nat) (N A : Nat) (hN : X.length = N) (hF : FW X) (hn : N ≤ 4096) : ∃ (o : Option Nat),
    (∀ W, GRow W (some ⟨A, 0, none⟩) X → Calls Tryz.prog 23 #[.slice (some ⟨A, 0, none⟩) N (N + 12)] W fun e w' => ∃ r, e = .returned (.float .f64 r) ∧ NR o r ∧ Below W.heap.size W w') ∧
    (∀ W bo bc, GRow W bo X → Calls Tryz.prog 24 #[.slice bo N bc] W fun e w' => ∃ r, e = .returned (.float .f64 r) ∧ NR o r ∧ Below W.heap.size W w') := by
  subst hN
  exact ⟨_, fun W h => kept_any X _ _ W h hF (by omega), fun W bo bc h => rkept_any X bo bc W h hF (by omega)⟩
end Go.Proofs.YtflbglbhmdpmoaaGreatDoor
