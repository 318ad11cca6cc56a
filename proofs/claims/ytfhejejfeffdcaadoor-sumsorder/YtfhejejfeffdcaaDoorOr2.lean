/- SumsOrder: place; a number put behind one of the lists; a list of lists. -/
import Derived.Test.YtfhejejfeffdcaaDoorOr1
import Derived.Test.YtfhejejfeffdcaaDoorLo10
import Derived.Deep.Upon
namespace Go.Proofs.YtfhejejfeffdcaaDoor
open Go.RowKit

set_option maxHeartbeats 200000 in
theorem pick_in (x : Int) (n : Nat) (h0 : 0 < n) (h1 : n ≤ 200) (w : World) : Calls Tryd.prog 29 #[.int .i64 x, .int .i64 n] w fun e w' => ∃ m : Nat, e = .returned (.int .i64 m) ∧ m < n ∧ w' = w := by
  have b1 : x.tmod n < n := Int.tmod_lt_of_pos x (by omega)
  have b2 : -(n : Int) < x.tmod n := by
    have := Int.tmod_lt_of_pos (-x) (show (0 : Int) < n by omega)
    rw [Int.neg_tmod] at this
    omega
  have k1 : ¬ (n : Int) < 1 := by omega
  have k2 : ((n : Int) == 0) = false := by simp; omega
  have k3 : ¬ (n : Int) = 0 := by omega
  by_cases h : x.tmod n < 0
  · generalize hy : x.tmod n = y at *
    clear b1
    go_enter Tryd.func29, Tryd.ntmps29
    go_wp2
    go_ret
    exact ⟨(y + n).toNat, (by rw [Int.toNat_of_nonneg (by omega)]; rfl), by omega, rfl⟩
  · generalize hy : x.tmod n = y at *
    clear b2
    go_enter Tryd.func29, Tryd.ntmps29
    go_wp2
    go_ret
    exact ⟨y.toNat, (by rw [Int.toNat_of_nonneg (by omega)]; rfl), by omega, rfl⟩
set_option maxHeartbeats 200000 in
theorem oplace_any (x : Int) (n : Nat) (h1 : n ≤ 200) (w : World) : Calls Tryd.prog 9 #[.int .i64 x, .int .i64 n] w fun e w' => ∃ k : Nat, e = .returned (.int .i64 k) ∧ (k < n ∨ n = 0 ∧ k = 0) ∧ w' = w := by
  by_cases h0 : n = 0
  · subst h0
    go_enter Tryd.func9, Tryd.ntmps9
    go_wp2
    go_ret
    exact ⟨0, rfl, Or.inr ⟨by trivial, rfl⟩, rfl⟩
  · have k2 : ((n : Int) == 0) = false := by simp; omega
    have cp := pick_in x n (by omega) h1
    go_enter Tryd.func9, Tryd.ntmps9
    go_wp2_with (go_at_call 29; refine (cp _).mono ?_; rintro e w' ⟨k, rfl, hk, h'⟩; subst w')
    go_ret
    exact ⟨k, rfl, Or.inl hk, rfl⟩
/-- One number more behind one of the lists, which first lies in a block of its own. -/
theorem OwL.step {w wr w1 : World} {v : Nat → Value} {xs : Nat → List Nat} (h : OwL w wr v xs) (i : Nat) {v' : Value} (y : Nat) (o : Obj) (hown : w1.ownsRow w.heap.size 25 1 v' ((xs i).length + 1) (fv (xs i) ++ [.float .f64 y])) (hg : (wr.alloc o).grownBy w1 (v i).ownBlock) (ha : v'.ownBlock = (v i).ownBlock ∨ v'.ownBlock = some (wr.alloc o).heap.size) :
    ∃ v2 xs2, OwL w w1 v2 xs2 ∧ v2 i = v' ∧ (∀ j, j ≠ i → v2 j = v j) ∧ xs2 i = xs i ++ [y] ∧ (∀ j, j ≠ i → xs2 j = xs j) :=
  ⟨_, _, (h.later (bal wr o)).next i [y] rfl hown hg ha, by simp, fun j hj => by simp [hj], by simp, fun j hj => by simp [hj]⟩
theorem fin_neg (x : Nat) (hx : x < 18446744073709551616) (h : finB x = true) : finB (negW x) = true := by
  unfold finB at h ⊢
  rw [(neg_rung hx).1]; exact h
/-- append of one number to one of the lists, as an equation. -/
theorem app_one {w wr : World} {v : Nat → Value} {xs : Nat → List Nat} (h : OwL w wr v xs) (i : Nat) (y : Nat) (hn : (xs i).length ≤ 1000) : ∃ v' w1 v2 xs2,
    ((Builtin.append_ #[22, 22] 22 #[v i, .slice (some ⟨wr.heap.size, 0, none⟩) 1 1]).run Tryd.prog (wr.alloc (.cells #[.float .f64 y] 25)) = .ok v' w1) ∧
    OwL w w1 v2 xs2 ∧ v2 i = v' ∧ (∀ j, j ≠ i → v2 j = v j) ∧ xs2 i = xs i ++ [y] ∧ (∀ j, j ≠ i → xs2 j = xs j) := by
  obtain ⟨i0, hi, hz0, hz1, hz2⟩ := info_parts Tryd.infoF
  have hall := run_append_own_at (P := Tryd.prog) (wr.alloc (.cells #[.float .f64 y] 25)) w.heap.size 22 22 25 i0 (.float .f64 0) 1 8 Tryd.underlying22 hi hz0 hz1 hz2 rfl (by decide) (v i) (xs i).length (fv (xs i)) ((h.own i).alloc _) ⟨wr.heap.size, 0, none⟩ 1 1 [.float .f64 y] rfl (cell_one_new _ _ _) (by simp [Value.oneCell']) (by unfold maxLen; omega) (by omega) (by have := h.below.size; simp; omega)
  obtain ⟨v', w1, hr, h2, h3, _, h5⟩ := hall
  obtain ⟨v2, xs2, q⟩ := h.step i y _ h2 h3 h5
  exact ⟨v', w1, v2, xs2, hr, q⟩
/-- append of the fourth list to the third. -/
theorem app_two {w wr : World} {v : Nat → Value} {xs : Nat → List Nat} (h : OwL w wr v xs) (hn : (xs 2).length ≤ 1000) (hm : (xs 3).length ≤ 1000) : ∃ v' w1 v2 xs2,
    ((Builtin.append_ #[22, 22] 22 #[v 2, v 3]).run Tryd.prog wr = .ok v' w1) ∧
    OwL w w1 v2 xs2 ∧ v2 2 = v' ∧ (∀ j, j ≠ 2 → v2 j = v j) ∧ xs2 2 = xs 2 ++ xs 3 ∧ (∀ j, j ≠ 2 → xs2 j = xs j) := by
  obtain ⟨i0, hi, hz0, hz1, hz2⟩ := info_parts Tryd.infoF
  rcases (h.own 3).2 with ⟨e, e0⟩ | ⟨g, c, cur, e, k1, k2, k3⟩
  · obtain ⟨bo, bc, q1, q2, q3⟩ := h.row 2
    refine ⟨v 2, wr, v, xs, ?_, h, rfl, fun _ _ => rfl, by rw [List.length_eq_zero_iff.1 e0, List.append_nil], fun _ _ => rfl⟩
    rw [e, q1]
    exact run_append_nothing wr 22 22 22 25 i0 Tryd.underlying22 hi bo _ bc q3 _ (Src.ofNil _ Tryd.underlying22 0)
  · have hall := run_append_own_at (P := Tryd.prog) wr w.heap.size 22 22 25 i0 (.float .f64 0) 1 8 Tryd.underlying22 hi hz0 hz1 hz2 rfl (by decide) (v 2) (xs 2).length (fv (xs 2)) (h.own 2) ⟨g, 0, none⟩ (xs 3).length c (fv (xs 3)) (by rw [fv_length, Nat.mul_one]) (World.ownsRow.cells (h.own 3) (by rw [e]; rfl)) (fv_one _) (by unfold maxLen; omega) (by omega) h.below.size
    obtain ⟨v', w1, hr, h2, h3, _, h5⟩ := hall
    refine ⟨v', w1, _, _, ?_, h.next 2 (xs 3) rfl h2 h3 h5, by simp, fun j hj => by simp [hj], by simp, fun j hj => by simp [hj]⟩
    rw [e]
    exact hr
/-- What stands while the lists grow: i numbers were looked at. -/
structure OrS (w wr : World) (ys : List Nat) (k i : Nat) (v : Nat → Value) (xs : Nat → List Nat) : Prop where
  own : OwL w wr v xs
  turned : xs 0 = (List.range i).map fun p => ys.getD (ys.length - 1 - p) 0
  round : xs 1 = (List.range i).map fun p => ys.getD ((p + k) % ys.length) 0
  halves : (xs 2 ++ xs 3).Perm (ys.take i)
theorem OrS.start {w : World} {ys : List Nat} {k : Nat} : OrS w w ys k 0 (fun _ => .slice none 0 0) (fun _ => []) :=
  ⟨OwL.start (Below.refl _ _), rfl, rfl, List.Perm.refl _⟩
theorem range_next {f : Nat → Nat} {i : Nat} : (List.range (i + 1)).map f = (List.range i).map f ++ [f i] := by simp [List.range_succ]
theorem OrS.len {w wr : World} {ys : List Nat} {k i : Nat} {v : Nat → Value} {xs : Nat → List Nat} (h : OrS w wr ys k i v xs) (hi : i ≤ ys.length) : (xs 0).length = i ∧ (xs 1).length = i ∧ (xs 2).length ≤ i ∧ (xs 3).length ≤ i := by
  have := h.halves.length_eq
  rw [List.length_append, List.length_take] at this
  exact ⟨by rw [h.turned]; simp, by rw [h.round]; simp, by omega, by omega⟩
/-- A number, and the whole list behind it. -/
theorem app_more {W : World} {ao : Option Addr} {cap x : Nat} {ys : List Nat} (hr : GRow W ao ys) (hn : ys.length ≤ 200) : ∃ v' w1,
    (Builtin.append_ #[22, 22] 22 #[.slice (some ⟨W.heap.size, 0, none⟩) 1 1, .slice ao ys.length cap]).run Tryd.prog (W.alloc (.cells #[.float .f64 x] 25)) = .ok v' w1 ∧
    w1.ownsRow W.heap.size 25 1 v' (x :: ys).length (fv (x :: ys)) ∧ Below W.heap.size W w1 := by
  obtain ⟨i0, hi, hz0, hz1, hz2⟩ := info_parts Tryd.infoF
  have ho : (W.alloc (.cells #[.float .f64 x] 25)).ownsRow W.heap.size 25 1 (.slice (some ⟨W.heap.size, 0, none⟩) 1 1) 1 (fv [x]) := World.ownsRow_lit (base := W.heap.size) (e := 25) (size := 1) W #[.float .f64 x] 1 (Nat.le_refl _) (by unfold maxLen; omega) rfl
  have hb := bal W (.cells #[.float .f64 x] 25)
  cases ao with
  | none =>
    have h0 : ys = [] := by
      rcases hr with h | ⟨b, off, h, _⟩
      · exact List.length_eq_zero_iff.1 h
      · cases h
    subst h0
    exact ⟨_, _, run_append_nothing _ 22 22 22 25 i0 Tryd.underlying22 hi _ 1 1 (Nat.le_refl _) _ (Src.ofNil _ Tryd.underlying22 cap), ho, hb⟩
  | some ad =>
    have hnews : ∀ j u, (fv ys)[j]? = some u → (W.alloc (.cells #[.float .f64 x] 25)).cell? (ad.add j) = some u := fun j u hu => by
      have hj : j < ys.length := by
        have := (List.getElem?_eq_some_iff.1 hu).1
        rw [fv_length] at this; exact this
      rw [fv_at hj] at hu
      cases hu
      rcases hr.below hb with h | ⟨b, off, e2, hc⟩
      · omega
      · cases e2
        have := hc j hj
        unfold Addr.add
        split
        · rename_i h; subst h; exact this
        · exact this
    obtain ⟨v', w1, e1, e2, e3, _, _⟩ := run_append_own_at (P := Tryd.prog) (W.alloc (.cells #[.float .f64 x] 25)) W.heap.size 22 22 25 i0 (.float .f64 0) 1 8 Tryd.underlying22 hi hz0 hz1 hz2 rfl (by decide) _ 1 (fv [x]) ho ad ys.length cap (fv ys) (by rw [fv_length, Nat.mul_one]) hnews (fv_one _) (by unfold maxLen; omega) (by omega) (by simp)
    refine ⟨v', w1, e1, ?_, ((Below.refl _ W).alloc (Nat.le_refl _) _).grown e3 (by simp) (fun k hk => by simp [Value.ownBlock] at hk; omega)⟩
    rw [show (x :: ys).length = 1 + ys.length by simp; omega]
    exact e2
/-- .. and one more. -/
theorem app_last {w W : World} {v : Value} {zs : List Nat} (y : Nat) (ho : W.ownsRow w.heap.size 25 1 v zs.length (fv zs)) (hb : Below w.heap.size w W) (hn : zs.length ≤ 1000) : ∃ v' w1,
    (Builtin.append_ #[22, 22] 22 #[v, .slice (some ⟨W.heap.size, 0, none⟩) 1 1]).run Tryd.prog (W.alloc (.cells #[.float .f64 y] 25)) = .ok v' w1 ∧
    w1.ownsRow w.heap.size 25 1 v' (zs ++ [y]).length (fv (zs ++ [y])) ∧ Below w.heap.size w w1 := by
  obtain ⟨i0, hi, hz0, hz1, hz2⟩ := info_parts Tryd.infoF
  obtain ⟨v', w1, e1, e2, e3, _, _⟩ := run_append_own_at (P := Tryd.prog) (W.alloc (.cells #[.float .f64 y] 25)) w.heap.size 22 22 25 i0 (.float .f64 0) 1 8 Tryd.underlying22 hi hz0 hz1 hz2 rfl (by decide) v zs.length (fv zs) (ho.alloc _) ⟨W.heap.size, 0, none⟩ 1 1 [.float .f64 y] rfl (cell_one_new _ _ _) (by simp [Value.oneCell']) (by unfold maxLen; omega) (by omega) (by have := hb.size; simp; omega)
  refine ⟨v', w1, e1, ?_, ?_⟩
  · rw [List.length_append, show fv (zs ++ [y]) = fv zs ++ [.float .f64 y] by simp [fv]]
    exact e2
  · exact (hb.alloc hb.size _).grown e3 (by have := hb.size; simp; omega) (fun k hk => (ho.lt k hk).1)
/-- Lists in a row, each with the sum that is asked. -/
def RwS (ys : List Nat) (W : World) (g nr : Nat) (f : Nat → Value) : Prop := ∀ j, j < nr → W.cell? ⟨g, j, none⟩ = some (f j) ∧ ∃ bo P bc, f j = .slice bo P.length bc ∧ GRow W bo P ∧ Rw ys P
theorem RwS.below {ys : List Nat} {W W' : World} {g nr : Nat} {f : Nat → Value} (h : RwS ys W g nr f) (hb : Below W.heap.size W W') : RwS ys W' g nr f := fun j hj => by
  obtain ⟨h1, bo, P, bc, h2, h3, h4⟩ := h j hj
  exact ⟨by rw [hb.cell (World.block_lt_of_cell? W _ h1)]; exact h1, bo, P, bc, h2, h3.below hb, h4⟩
theorem rws_of {ys : List Nat} {W : World} {g nr c base : Nat} {vs : List Value} (ho : W.ownsRow base 22 1 (.slice (some ⟨g, 0, none⟩) nr c) nr vs) (h : ∀ v ∈ vs, ∃ bo P bc, v = .slice bo P.length bc ∧ GRow W bo P ∧ Rw ys P) : RwS ys W g nr (fun j => vs.getD j (.slice none 0 0)) := fun j hj => by
  have hl : vs.length = nr := by rw [ho.1, Nat.mul_one]
  have e := World.ownsRow.cellAt ho j (by omega)
  have hg : vs[j]? = some (vs.getD j (.slice none 0 0)) := by
    rw [List.getD_eq_getElem?_getD, List.getElem?_eq_getElem (by omega)]; rfl
  exact ⟨by rw [e, hg], h _ (List.mem_of_getElem? hg)⟩
theorem infoS : (Tryd.prog.info? 22).map (fun i => (i.zero, i.size, i.bytes)) = some (some (.slice none 0 0), 1, 24) := by kernel_rfl
/-- A list more behind the lists. -/
theorem app_rows {w W : World} {g : Nat} {a0 a1 a2 a3 : Value} (ho : W.ownsRow w.heap.size 22 1 (.slice (some ⟨g, 0, none⟩) 3 3) 3 [a0, a1, a2]) (hb : Below w.heap.size w W) (h3 : a3.oneCell' = true) : ∃ g' c' w1,
    (Builtin.append_ #[38, 38] 38 #[.slice (some ⟨g, 0, none⟩) 3 3, .slice (some ⟨W.heap.size, 0, none⟩) 1 1]).run Tryd.prog (W.alloc (.cells #[a3] 22)) = .ok (.slice (some ⟨g', 0, none⟩) 4 c') w1 ∧
    w1.ownsRow w.heap.size 22 1 (.slice (some ⟨g', 0, none⟩) 4 c') 4 [a0, a1, a2, a3] ∧ Below w.heap.size w w1 ∧
    (∀ (B : Nat) (v : Value) (n : Nat) (xs : List Value), W.ownsRow B 25 1 v n xs → v.ownBlock ≠ some g → w1.ownsRow B 25 1 v n xs) := by
  obtain ⟨i0, hi, hz0, hz1, hz2⟩ := info_parts infoS
  obtain ⟨v', w1, e1, e2, e3, _, _⟩ := run_append_own_at (P := Tryd.prog) (W.alloc (.cells #[a3] 22)) w.heap.size 38 38 22 i0 (.slice none 0 0) 1 24 Tryd.underlying38 hi hz0 hz1 hz2 rfl (by decide) _ 3 [a0, a1, a2] (ho.alloc _) ⟨W.heap.size, 0, none⟩ 1 1 [a3] rfl (cell_one_new _ _ _) (by simpa using h3) (by unfold maxLen; omega) (by omega) (by have := hb.size; simp; omega)
  rcases e2.2 with ⟨_, h⟩ | ⟨g', c', cur, e, k1, k2, k3⟩
  · omega
  · subst e
    exact ⟨g', c', w1, e1, e2, (hb.alloc hb.size _).grown e3 (by have := hb.size; simp; omega) (fun k hk => (ho.lt k hk).1), fun B v n xs h hne => (h.alloc _).kept e3 (Or.inr hne)⟩
theorem fin_both (x : Nat) (hx : x < 18446744073709551616) (W : World) : Calls Tryd.prog 10 #[.float .f64 x] W fun e w' => e = .returned (.bool (finB x)) ∧ Below W.heap.size W w' := by
  cases hf : finB x
  · refine (fin_no x hx hf W).mono ?_
    rintro e w' ⟨rfl, rfl⟩
    exact ⟨rfl, (Below.refl _ _).drew⟩
  · refine (fin_yes x hx hf W).mono ?_
    rintro e w' ⟨rfl, rfl⟩
    exact ⟨rfl, Below.refl _ _⟩
/-- The fourth list, and where the four lie. -/
theorem four_rows {x1 w5 : World} {ys : List Nat} {ao : Option Addr} {cap x : Nat} {a0 a1 a2 : Value} (hR : w5.ownsRow x1.heap.size 22 1 (.slice (some ⟨x1.heap.size, 0, none⟩) 3 3) 3 [a0, a1, a2]) (b5 : Below x1.heap.size x1 w5)
    (VV : ∀ u ∈ [a0, a1, a2], ∃ bo P bc, u = .slice bo P.length bc ∧ GRow x1 bo P ∧ Rw ys P) (hr : GRow w5 ao ys) (hn : ys.length ≤ 200) (hf : ys.all finB = true) (hF : FW ys) (hx : x < 18446744073709551616) (fx : finB x = true) : ∃ u2 x2 b3' n3 c3' x3 g' c' x4,
    (Builtin.append_ #[22, 22] 22 #[.slice (some ⟨w5.heap.size, 0, none⟩) 1 1, .slice ao ys.length cap]).run Tryd.prog (w5.alloc (.cells #[.float .f64 x] 25)) = .ok u2 x2 ∧
    (Builtin.append_ #[22, 22] 22 #[u2, .slice (some ⟨x2.heap.size, 0, none⟩) 1 1]).run Tryd.prog (x2.alloc (.cells #[.float .f64 (negW x)] 25)) = .ok (.slice b3' n3 c3') x3 ∧
    (Builtin.append_ #[38, 38] 38 #[.slice (some ⟨x1.heap.size, 0, none⟩) 3 3, .slice (some ⟨x3.heap.size, 0, none⟩) 1 1]).run Tryd.prog (x3.alloc (.cells #[.slice b3' n3 c3'] 22)) = .ok (.slice (some ⟨g', 0, none⟩) 4 c') x4 ∧
    RwS ys x4 g' 4 (fun j => [a0, a1, a2, .slice b3' n3 c3'].getD j (.slice none 0 0)) ∧ Below x1.heap.size x1 x4 := by
  obtain ⟨u2, x2, q2, o2, b2⟩ := app_more (cap := cap) (x := x) hr hn
  obtain ⟨u3, x3, q3, o3, b3⟩ := app_last (negW x) o2 b2 (by simp; omega)
  obtain ⟨bo, bc, e1, e2, _⟩ := owned_grow o3
  subst e1
  have B3 := b5.trans (b3.mono b5.size)
  have hg : x1.heap.size < w5.heap.size := (hR.lt x1.heap.size rfl).2
  obtain ⟨g', c', x4, q4, o4, b4, k4⟩ := app_rows (w := x1) (W := x3) (a3 := .slice bo (x :: ys ++ [negW x]).length bc) (own_later (w := x1) hR b3) B3 rfl
  have hx3 : (Value.slice bo (x :: ys ++ [negW x]).length bc).ownBlock ≠ some x1.heap.size := fun e => by
    have := (o3.lt _ e).1
    omega
  obtain ⟨bo', bc', e1', e2', _⟩ := owned_grow (k4 _ _ _ _ o3 hx3)
  have n1 := fin_neg x hx fx
  refine ⟨u2, x2, bo, _, bc, x3, g', c', x4, q2, q3, q4, rws_of o4 fun u hu => ?_, b4⟩
  have hu : u ∈ [a0, a1, a2] ∨ u = .slice bo (x :: ys ++ [negW x]).length bc := by
    simp at hu ⊢
    rcases hu with h | h | h | h
    · exact Or.inl (Or.inl h)
    · exact Or.inl (Or.inr (Or.inl h))
    · exact Or.inl (Or.inr (Or.inr h))
    · exact Or.inr h
  rcases hu with hu | rfl
  · obtain ⟨bo, P, bc, h1, h2, h3⟩ := VV u hu
    exact ⟨bo, P, bc, h1, h2.below b4, h3⟩
  · exact ⟨bo', x :: ys ++ [negW x], bc', e1', e2', Rw.more hf hF fx n1 hx (negW_lt hx) (vI_neg hx)⟩
theorem ones_row {W : World} {G n : Nat} (h : W.rowIs G 25 n (fun p => if p < n then .float .f64 4607182418800017408 else .float .f64 0)) : GRow W (some ⟨G, 0, none⟩) (List.replicate n 4607182418800017408) := by
  refine Or.inr ⟨G, 0, rfl, fun p hp => ?_⟩
  have hp : p < n := by simpa using hp
  rw [Nat.zero_add, World.rowIs.cell h hp, if_pos hp, getD_at (by simpa using hp), List.getElem_replicate]
/-- Ones, as far as they are written. -/
def OnS (w7 wr : World) (n t : Nat) : Prop := wr.rowIs w7.heap.size 25 n (fun p => if p < t then .float .f64 4607182418800017408 else .float .f64 0) ∧ Below w7.heap.size w7 wr
theorem OnS.start (w7 : World) (n : Nat) : OnS w7 (w7.alloc (.cells (madeCells #[.float .f64 0] n) 25)) n 0 :=
  ⟨World.rowIs.congr (World.rowIs_made w7 (.float .f64 0) n 25) fun j _ => by simp, bal _ _⟩
theorem OnS.set {w7 wr : World} {n t : Nat} (h : OnS w7 wr n t) : OnS w7 (wr.setCell ⟨w7.heap.size, t, none⟩ (.float .f64 4607182418800017408)) n (t + 1) := by
  refine ⟨World.rowIs.congr (World.rowIs.set h.1 t (.float .f64 4607182418800017408)) fun j _ => ?_, h.2.setCell (Nat.le_refl _) _⟩
  by_cases e : j = t
  · subst e; simp
  · simp only [e, if_false]
    by_cases e2 : j < t
    · rw [if_pos e2, if_pos (by omega)]
    · rw [if_neg e2, if_neg (by omega)]
theorem ones_fw (n : Nat) : FW (List.replicate n 4607182418800017408) := fun x hx => by rw [(List.mem_replicate.1 hx).2]; decide
/-- append, by an equation. -/
theorem wpList_append_eq {ops : Array Oper} {rest : List Oper} {o : Oper} {a : Act} {Q : Exit → Act → World → Prop} {w w' : World} {t ty : TypeId} {v u v' : Value} (hr : (Builtin.append_ #[t, t] ty #[v, u]).run Tryd.prog w = .ok v' w') (hgd : o.guard = none) (s x : Operand)
    (ho : o.op = .call { callee := .builtin .append, args := #[s, x], argTypes := #[t, t] }) (hty : o.type = ty) (hs : a.eval s = v) (hx : a.eval x = u) (h : wpList Tryd.prog ops Q rest (a.put o.dst v') w') : wpList Tryd.prog ops Q (o :: rest) a w := by
  subst hty
  refine wpList_plain hgd fun K hK => ?_
  unfold Oper.wp execOp
  simp only [ho, resolve, invoke, builtin, Sem.run_bind, Sem.run_pure, Result.andThen_ok, List.map_toArray, List.map_cons, List.map_nil, hs, hx, hr]
  exact hK _ _ h
end Go.Proofs.YtfhejejfeffdcaaDoor
