/- SpanLists, whatever lists it is given: the walk. -/
import Derived.Test.YtajcfdcmbiffbaaGreatDoorLA
import Derived.Laws.OwnMore
import Derived.Deep.AppendLies
import Derived.OwnWalk
import Derived.Test.YtajcfdcmbiffbaaGreatDoorLC
namespace Go.Proofs.YtajcfdcmbiffbaaGreatDoor
open Go.RowKit

theorem Tryz.infoS : (Tryz.prog.info? 27).map (fun i => (i.zero, i.size, i.bytes)) = some (some (.agg #[.float .f64 0, .float .f64 0]), 2, 16) := by kernel_rfl
theorem info_span {P : Program} {t : TypeId} {z : Option Value} {s b : Nat} (h : (P.info? t).map (fun i => (i.zero, i.size, i.bytes)) = some (z, s, b)) : ∃ i, P.info? t = some i ∧ i.zero = z ∧ i.size = s ∧ i.bytes = b := by
  cases e : P.info? t with
  | none => rw [e] at h; cases h
  | some i =>
    rw [e] at h
    simp only [Option.map_some, Option.some.injEq, Prod.mk.injEq] at h
    exact ⟨i, rfl, h.1, h.2.1, h.2.2⟩
theorem retInt {a b : Int} (h : a = b) : Ending.returned (.int .i64 a) = .returned (.int .i64 b) := by subst h; rfl
/-- Spans as cells. -/
def spc : List (Nat × Nat) → List Value
  | [] => []
  | p :: ps => .float .f64 p.1 :: .float .f64 p.2 :: spc ps
theorem spc_len : ∀ ps : List (Nat × Nat), (spc ps).length = ps.length * 2
  | [] => rfl
  | _ :: ps => by simp only [spc, List.length_cons, spc_len ps]; omega
theorem spc_app : ∀ ps qs : List (Nat × Nat), spc (ps ++ qs) = spc ps ++ spc qs
  | [], _ => rfl
  | p :: ps, qs => by simp only [List.cons_append, spc, spc_app ps qs]
theorem spc_one : ∀ (ps : List (Nat × Nat)) (u : Value), u ∈ spc ps → u.oneCell' = true
  | [], _, h => by cases h
  | p :: ps, u, h => by
    simp only [spc, List.mem_cons] at h
    rcases h with rfl | rfl | h
    · rfl
    · rfl
    · exact spc_one ps u h
theorem spc_at : ∀ (ps : List (Nat × Nat)) (j : Nat), j < ps.length → (spc ps)[j * 2]? = some (.float .f64 (ps.getD j (0, 0)).1) ∧ (spc ps)[j * 2 + 1]? = some (.float .f64 (ps.getD j (0, 0)).2)
  | [], _, h => by simp at h
  | p :: ps, 0, _ => by simp [spc]
  | p :: ps, j + 1, h => by
    have := spc_at ps j (by simpa using h)
    rw [show (j + 1) * 2 = j * 2 + 1 + 1 by omega]
    simpa [spc] using this
/-- The marks, as floats. -/
def mkS (i : Nat) : Nat := floatOfInt .f64 ((1000003 * 8 + i : Nat) : Int)
theorem mkS_ok : (List.range 12).all (fun i => Nat.blt (mkS i) 9218868437227405312) = true := by kernel_rfl
theorem mkS_lt {i : Nat} (h : i < 12) : mkS i < 9218868437227405312 := by
  have := List.all_eq_true.1 mkS_ok i (List.mem_range.2 h)
  simpa using this
def mkP (n : Nat) : List (Nat × Nat) := (List.range n).map fun i => (mkS i, 0)
theorem mkP_len (n : Nat) : (mkP n).length = n := by simp [mkP]
theorem mkP_succ (n : Nat) : mkP (n + 1) = mkP n ++ [(mkS n, 0)] := by simp [mkP, List.range_succ]
theorem mkP_at {n i : Nat} (h : i < n) : (mkP n).getD i (0, 0) = (mkS i, 0) := by simp [mkP, List.getD_eq_getElem?_getD, h]
theorem srown_base {w : World} {b c : Nat} {e : TypeId} {v : Value} {n : Nat} {xs : List Value} (h : w.ownsRow b e 2 v n xs) (hc : c ≤ b) : w.ownsRow c e 2 v n xs := by
  refine ⟨h.1, ?_⟩
  rcases h.2 with hn | ⟨g, cap, cur, h1, h2, h3⟩
  · exact Or.inl hn
  · exact Or.inr ⟨g, cap, cur, h1, Nat.le_trans hc h2, h3⟩
theorem srown_below {w w' : World} {b : Nat} {e : TypeId} {v : Value} {n : Nat} {xs : List Value} (h : w.ownsRow b e 2 v n xs) (hb : Below w.heap.size w w') : w'.ownsRow b e 2 v n xs := by
  refine ⟨h.1, ?_⟩
  rcases h.2 with hn | ⟨g, cap, cur, h1, h2, h3, h4⟩
  · exact Or.inl hn
  · have hl : g < w.heap.size := by
      rcases Nat.lt_or_ge g w.heap.size with q | q
      · exact q
      · rw [Array.getElem?_eq_none q] at h3; cases h3
    exact Or.inr ⟨g, cap, cur, h1, h2, by rw [hb.block g hl]; exact h3, h4⟩
/-- Spans that were lent. -/
def LentS (w : World) (g : Nat) (ps : List (Nat × Nat)) : Prop := w.ownsRow 0 27 2 (.slice (some ⟨g, 0, none⟩) (ps.length + 12) (ps.length + 12)) (ps.length + 12) (spc (ps ++ mkP 12))
theorem LentS.cell {w : World} {g : Nat} {ps : List (Nat × Nat)} (h : LentS w g ps) {j : Nat} (hj : j < ps.length + 12) : w.cell? ⟨g, j * 2, none⟩ = some (.float .f64 ((ps ++ mkP 12).getD j (0, 0)).1) ∧ w.cell? ⟨g, j * 2 + 1, none⟩ = some (.float .f64 ((ps ++ mkP 12).getD j (0, 0)).2) := by
  have e0 := World.ownsRow.cellAt h (j * 2) (by omega)
  have e1 := World.ownsRow.cellAt h (j * 2 + 1) (by omega)
  have hs := spc_at (ps ++ mkP 12) j (by rw [List.length_append, mkP_len]; exact hj)
  exact ⟨e0.trans hs.1, e1.trans hs.2⟩
theorem lentS_low {ps : List (Nat × Nat)} {k : Nat} (h : k < ps.length) : (ps ++ mkP 12).getD k (0, 0) = ps.getD k (0, 0) := by
  rw [List.getD_eq_getElem?_getD, List.getD_eq_getElem?_getD, List.getElem?_append_left h]
theorem lentS_high {ps : List (Nat × Nat)} {k : Nat} (h : ps.length ≤ k) (h2 : k < ps.length + 12) : (ps ++ mkP 12).getD k (0, 0) = (mkS (k - ps.length), 0) := by
  rw [List.getD_eq_getElem?_getD, List.getElem?_append_right h, ← List.getD_eq_getElem?_getD, mkP_at (by omega)]
theorem LentS.row {w : World} {g : Nat} {ps : List (Nat × Nat)} (h : LentS w g ps) : SRow w (some ⟨g, 0, none⟩) ps := by
  refine Or.inr ⟨g, 0, rfl, fun j hj => ?_⟩
  have := h.cell (j := j) (by omega)
  rw [lentS_low hj] at this
  simpa using this
theorem LentS.lt {w : World} {g : Nat} {ps : List (Nat × Nat)} (h : LentS w g ps) : g < w.heap.size := World.block_lt_of_cell? w _ (h.cell (j := 0) (by omega)).1
theorem LentS.below {w w' : World} {g : Nat} {ps : List (Nat × Nat)} (h : LentS w g ps) (hb : Below w.heap.size w w') : LentS w' g ps := by
  have hl := h.lt
  refine ⟨h.1, ?_⟩
  rcases h.2 with ⟨e, _⟩ | ⟨g', cap, cur, e, h1, h2, h3⟩
  · cases e
  · cases e
    exact Or.inr ⟨g, ps.length + 12, cur, rfl, h1, by rw [hb.block g hl]; exact h2, h3⟩
set_option maxHeartbeats 400000 in
theorem smark_any (k i m : Nat) (hk : k ≤ 2) (hi : i ≤ 18000000000000) (hm : 1000003 * (k + 7) + i = m) (w : World) :
    Calls Tryz.prog 36 #[.int .i64 k, .int .i64 i] w fun e w' => e = .returned (.int .i64 (m : Int)) ∧ w' = w := by
  have HM : Hid (1000003 * (k + 7) + i = m) := hm
  clear hm
  go_enter Tryz.func36, Tryz.ntmps36
  go_wp2
  go_ret
  exact ⟨retInt (by have := HM.out; omega), rfl⟩
set_option maxHeartbeats 400000 in
theorem smarks_any (i : Nat) (hi : i < 12) (w : World) :
    Calls Tryz.prog 19 #[.int .i64 1, .int .i64 i] w fun e w' => e = .returned (spV (mkS i) 0) ∧ Below w.heap.size w w' := by
  have hst := run_storef Tryz.prog
  obtain ⟨m, hm⟩ : ∃ m, 1000003 * (1 + 7) + i = m := ⟨_, rfl⟩
  have hmk := fun w => smark_any 1 i m (by omega) (by omega) hm w
  obtain ⟨x, hx⟩ : ∃ x, mkS i = x := ⟨_, rfl⟩
  have hcv : floatOfInt .f64 (m : Int) = x := by rw [← hx, ← hm]; rfl
  have hml : m ≤ 9000000 := by omega
  rw [hx]
  clear hm hx
  obtain ⟨c0, c1, f0, f1, _⟩ := Bx.new w (.float .f64 0) (.float .f64 0) 27
  have Z := (Below.refl w.heap.size w).alloc (Nat.le_refl _) (.cells #[.float .f64 0, .float .f64 0] 27)
  go_enter Tryz.func19, Tryz.ntmps19
  go_wp2_with (go_at_call 36; refine (hmk _).mono ?_; rintro e w' ⟨rfl, rfl⟩)
  exact bodyPost_ret (v := spV x 0) (by simp [results, Tryz.results19, go_sem]) rfl ⟨rfl, by first | exact set2 Z (Nat.le_refl _) _ _ | exact (Below.refl w.heap.size w).alloc (Nat.le_refl _) _⟩
set_option maxHeartbeats 2000000 in
theorem lentS_any (ps : List (Nat × Nat)) (ao : Option Addr) (cap : Nat) (w : World) (hr : SRow w ao ps) (hs : ao = none → cap = 0 ∧ ps.length = 0) (hn : ps.length ≤ 1099511627776) :
    Calls Tryz.prog 5 #[.slice ao ps.length cap] w fun e w' => e = .returned (.slice (some ⟨w.heap.size, 0, none⟩) ps.length (ps.length + 12)) ∧ LentS w' w.heap.size ps ∧ Below w.heap.size w w' := by
  obtain ⟨i0, hi, hz0, hz1, hz2⟩ := info_span Tryz.infoS
  have hnews : ∀ w1, w.grownBy w1 none → ∀ ad, ao = some ad → ∀ j u, (spc ps)[j]? = some u → w1.cell? (ad.add j) = some u := by
    intro w1 hg ad e j u hu
    have hj : j < ps.length * 2 := by
      have := (List.getElem?_eq_some_iff.1 hu).1
      rw [spc_len] at this; exact this
    have hb : Below w.heap.size w w1 := (Below.refl _ _).grown hg (Nat.le_refl _) (fun k hk => by cases hk)
    rcases hr.below hb with h | ⟨b, off, e2, hc⟩
    · omega
    · rw [e2] at e
      cases e
      have hadd : (⟨b, off, none⟩ : Addr).add j = ⟨b, off + j, none⟩ := by
        unfold Addr.add
        split
        · rename_i h; subst h; rfl
        · rfl
      rw [hadd]
      have g := hc (j / 2) (by omega)
      have s := spc_at ps (j / 2) (by omega)
      rcases (show j = j / 2 * 2 ∨ j = j / 2 * 2 + 1 by omega) with q | q
      · rw [← q] at g s
        rw [s.1] at hu; cases hu; exact g.1
      · rw [Nat.add_assoc, ← q] at g
        rw [← q] at s
        rw [s.2] at hu; cases hu; exact g.2
  go_enter Tryz.func5, Tryz.ntmps5
  go_wp2_with (first
    | (refine wpList_make_own _ rfl _ _ 22 rfl w.heap.size 27 i0 (.agg #[.float .f64 0, .float .f64 0]) 2 Tryz.underlying22 hi hz0 hz1 .i64 .i64 _ (ps.length + 12) rfl rfl (by omega) (by rw [hz2]; omega) (by unfold maxLen; omega) (Nat.le_refl _) ?_; intro w1 hown1 hg1)
    | (at_builtin; refine wpList_append_fits_any _ rfl _ _ 22 rfl w.heap.size 27 i0 2 Tryz.underlying22 hi hz1 w.heap.size 0 (ps.length + 12) [] rfl hown1 ao ps.length cap (spc ps) rfl (spc_len ps) (fun h => ⟨(hs h).2, (hs h).1⟩) (hnews _ hg1) (spc_one _) (by omega) ?_; intro w2 hown2 hg2))
  have hb2 : Below w.heap.size w w2 := ((Below.refl _ _).grown hg1 (Nat.le_refl _) (fun k hk => by cases hk)).grown hg2 (by have := hg1.size; omega) (fun k hk => by cases hk; exact Nat.le_refl _)
  rw [List.nil_append, Nat.zero_add] at hown2
  clear hown1 hg1 hg2 hnews
  go_loopg [4, 3] 12 (fun g i v wr => ∃ k : Nat, k ≤ 12 ∧ g = 12 - k ∧ i = .int .i64 k ∧ v = .slice (some ⟨w.heap.size, 0, none⟩) (ps.length + k) (ps.length + 12) ∧ wr.ownsRow w.heap.size 27 2 (.slice (some ⟨w.heap.size, 0, none⟩) (ps.length + k) (ps.length + 12)) (ps.length + k) (spc (ps ++ mkP k)) ∧ Below w.heap.size w wr)
  case atStart => exact ⟨0, by omega, rfl, rfl, rfl, by simpa [mkP] using hown2, hb2⟩
  case round =>
    obtain ⟨k, hk, hg, rfl, rfl, hown, hb⟩ := hrel
    clear hown2 hb2
    have hbs := hb.size
    by_cases hlt : k < 12
    · have j1 : (k : Int) < 12 := by omega
      have hmk := fun w => smarks_any k hlt w
      obtain ⟨x, hx⟩ : ∃ x, mkS k = x := ⟨_, rfl⟩
      rw [hx] at hmk
      have HT : Hid (spc (ps ++ mkP (k + 1)) = spc (ps ++ mkP k) ++ [.float .f64 x, .float .f64 0]) := (show _ = _ by rw [mkP_succ, ← List.append_assoc, spc_app, hx]; rfl)
      clear hx
      go_wp2_with (first
        | (go_at_call 19; refine (hmk _).mono ?_; rintro e w1 ⟨rfl, b1⟩; have hown1 := srown_below hown b1; have hbb := hb.trans (b1.mono hb.size))
        | (at_builtin; refine wpList_append_fits _ rfl _ _ 22 rfl w.heap.size 27 i0 2 Tryz.underlying22 hi hz1 w.heap.size (ps.length + k) (ps.length + 12) (spc (ps ++ mkP k)) rfl (hown1.alloc _) ⟨_, 0, none⟩ 1 1 [.float .f64 x, .float .f64 0] rfl rfl (World.news_of_block (cs := #[.float .f64 x, .float .f64 0]) (t := 27) (fr := (0, 0)) (heap_alloc_new _ _)) (by simp [Value.oneCell']) (by omega) ?_; intro w3 hown3 hg3))
      have hown4 : w3.ownsRow w.heap.size 27 2 (.slice (some ⟨w.heap.size, 0, none⟩) (ps.length + (k + 1)) (ps.length + 12)) (ps.length + (k + 1)) (spc (ps ++ mkP (k + 1))) := by rw [HT.out]; exact hown3
      have hb3 : Below w.heap.size w w3 := (hbb.alloc hbb.size _).grown hg3 (by simp; have := hbb.size; omega) (fun k hk => by cases hk; exact Nat.le_refl _)
      clear hown3 hg3 hown hb HT
      go_wp2
      go_roundg (12 - (k + 1))
      case measure => omega
      case rel => exact ⟨k + 1, by omega, rfl, by go_num, by go_num, hown4, hb3⟩
    · obtain rfl : k = 12 := by omega
      have hL : LentS wr w.heap.size ps := srown_base hown (Nat.zero_le _)
      have j1 : ((ps.length : Int)) ≤ ((ps.length + 12 : Nat) : Int) := by omega
      go_wp2
      go_ret
      exact ⟨rfl, hL, hb⟩
/-- As region_quietB, the operations behind a letter: where guards are not run, nothing is reckoned ahead of its time. -/
theorem region_quietO {P : Program} {id : Nat} {Q : Exit → Act → World → Prop} {a : Act} {w : World} {l : List Oper} (hm : P.follows .mixedOrders = true) (hB : Region.lexB .any l.toArray = true) (hT : TabW w)
    (h : ∀ O : Array Oper, (∀ j : Nat, O[j]? = l.toArray[j]?) → wpQuiet P O (fun w' => ∃ u : QOf w, w' = u.val) (fun a' => ∀ w', (∃ u : QOf w, w' = u.val) → Q .normal a' w') l a) : (Code.region id l.toArray true).wp P Q a w :=
  region_quietB hm hB hT (h _ (fun _ => rfl))
theorem ssame_two (a b c d : Nat) (ha : a < 18446744073709551616) (hb : b < 18446744073709551616) (e1 : a = c) (e2 : b = d) (w : World) :
    Calls Tryz.prog 31 #[spV a b, spV c d] w fun e w' => e = .returned (.bool true) ∧ Below w.heap.size w w' := by
  subst e1 e2
  exact ssame_self a b ha hb w
set_option maxHeartbeats 4000000 in
set_option maxRecDepth 100000 in
theorem keptS_any (ps : List (Nat × Nat)) (ao : Option Addr) (cap g : Nat) (w : World) (hT : TabW w) (hr : SRow w ao ps) (hF : FS ps) (hl : LentS w g ps) (hn : ps.length ≤ 1099511627776) :
    Calls Tryz.prog 13 #[.slice (some ⟨g, 0, none⟩) ps.length (ps.length + 12), .slice ao ps.length cap] w fun e w' => e = .returned (.bool true) ∧ Below w.heap.size w w' := by
  have HC : Hid (∀ k, k < ps.length + 12 → ∀ w', LentS w' g ps → w'.cell? ⟨g, k * 2, none⟩ = some (.float .f64 ((ps ++ mkP 12).getD k (0, 0)).1) ∧ w'.cell? ⟨g, k * 2 + 1, none⟩ = some (.float .f64 ((ps ++ mkP 12).getD k (0, 0)).2)) := fun k hk w' h => h.cell hk
  have HL : Hid (∀ k, k < ps.length → (ps ++ mkP 12).getD k (0, 0) = ps.getD k (0, 0)) := fun k hk => lentS_low hk
  have HH : Hid (∀ k, ps.length ≤ k → k < ps.length + 12 → (ps ++ mkP 12).getD k (0, 0) = (mkS (k - ps.length), 0)) := fun k h1 h2 => lentS_high h1 h2
  have HA : Hid (∀ k, k < ps.length → (ps.getD k (0, 0)).1 < 18446744073709551616 ∧ (ps.getD k (0, 0)).2 < 18446744073709551616) := fun k hk => hF.at hk
  obtain ⟨N, hN⟩ : ∃ N, ps.length = N := ⟨_, rfl⟩
  have HN : Hid (ps.length = N) := hN
  rw [hN] at hn HC HL HH HA ⊢
  clear hN hF
  have c0 : ((N : Int) != (N : Int)) = false := by simp
  have c1 : (N : Int) + 12 ≤ ((N + 12 : Nat) : Int) := by omega
  go_enter Tryz.func13, Tryz.ntmps13
  go_wp2
  go_loopg [6] (N + 12) (fun gg i wr => ∃ k : Nat, k ≤ N + 12 ∧ gg = N + 12 - k ∧ i = .int .i64 k ∧ Below w.heap.size w wr)
  case atStart => exact ⟨0, by omega, rfl, rfl, Below.refl _ _⟩
  case round =>
    obtain ⟨k, hk, hg, rfl, hb⟩ := hrel
    have HG : Hid (gk = N + 12 - k) := hg
    clear hg
    have hr2 := hr.below hb
    have hl2 := hl.below hb
    have Tr := tabW_below hT hb
    by_cases hlt : k < N + 12
    · obtain ⟨g1, g2⟩ := HC.out k hlt wr hl2
      have i0 : (k : Int) < ((N + 12 : Nat) : Int) := by omega
      have i0' : (k : Int) < (N : Int) + 12 := by omega
      by_cases hlo : k < N
      · rcases hr2 with h | ⟨b, off, rfl, hc⟩
        · exact absurd (HN.out ▸ h) (by omega)
        · obtain ⟨d1, d2⟩ := hc k (by rw [HN.out]; exact hlo)
          rw [HL.out k hlo] at g1 g2
          obtain ⟨hxl, hyl⟩ := HA.out k hlo
          obtain ⟨⟨x, y⟩, hx⟩ : ∃ x, ps.getD k (0, 0) = x := ⟨_, rfl⟩
          rw [hx] at g1 g2 d1 d2 hxl hyl
          simp only at g1 g2 d1 d2 hxl hyl
          have cs := fun w => ssame_self x y hxl hyl w
          have i1 : (k : Int) < (N : Int) := by omega
          have i2 : decide ((k : Int) < (N : Int)) = true := decide_eq_true i1
          have i3 : decide (N ≤ k) = false := decide_eq_false (by omega)
          clear hc hx hxl hyl hl hl2 hr HC HL HH HA HN
          go_wp2
          have hne : Nonempty (QOf wr) := QOf.any Tr
          have k1 : ∀ u : QOf wr, u.val.cell? ⟨g, k * 2, none⟩ = some (.float .f64 x) := fun u => u.cell g1
          have k2 : ∀ u : QOf wr, u.val.cell? ⟨g, k * 2 + 1, none⟩ = some (.float .f64 y) := fun u => u.cell g2
          have k3 : ∀ u : QOf wr, u.val.cell? ⟨b, off + k * 2, none⟩ = some (.float .f64 x) := fun u => u.cell d1
          have k4 : ∀ u : QOf wr, u.val.cell? ⟨b, off + k * 2 + 1, none⟩ = some (.float .f64 y) := fun u => u.cell d2
          refine region_quietO (by kernel_rfl) (by kernel_rfl) Tr (fun O hO => ?_)
          repeat (quiet_step ((go_at_call_of 31 (Value.agg #[Value.float FloatKind.f64 x, Value.float FloatKind.f64 y]); with_reducible exact quietB_of (cs _))))
          refine wpQuiet_nil ?_
          intro w' hw'
          obtain ⟨u, rfl⟩ := hw'
          have hb' := hb.trans (u.below.mono hb.size)
          go_wp2
          go_roundg (N + 12 - (k + 1))
          case measure => rw [HG.out]; omega
          case rel => exact ⟨k + 1, by omega, rfl, by go_num, hb'⟩
      · rw [HH.out k (by omega) hlt] at g1 g2
        simp only at g1 g2
        have hmk := fun w => smarks_any (k - N) (by omega) w
        have hxn := mkS_lt (i := k - N) (by omega)
        obtain ⟨x, hx⟩ : ∃ x, mkS (k - N) = x := ⟨_, rfl⟩
        rw [hx] at g1 hxn hmk
        have e1 : ((k - N : Nat) : Int) = (k : Int) - (N : Int) := by omega
        rw [e1] at hmk
        have cs := fun w => ssame_self x 0 (by omega) (by omega) w
        have e2 : IntKind.i64.wrap ((k : Int) - (N : Int)) = (k : Int) - (N : Int) := by rw [IntKind.wrap_i64]; omega
        have i1 : ¬ (k : Int) < (N : Int) := by omega
        have i2 : decide ((k : Int) < (N : Int)) = false := decide_eq_false i1
        have i3 : decide (N ≤ k) = true := decide_eq_true (by omega)
        have i5 : decide (k < N) = false := decide_eq_false (by omega)
        have i4 : (N : Int) ≤ (k : Int) := by omega
        clear e1 hx hxn hl hl2 hr hr2 HC HL HH HA HN
        go_wp2
        have hne : Nonempty (QOf wr) := QOf.any Tr
        have k1 : ∀ u : QOf wr, u.val.cell? ⟨g, k * 2, none⟩ = some (.float .f64 x) := fun u => u.cell g1
        have k2 : ∀ u : QOf wr, u.val.cell? ⟨g, k * 2 + 1, none⟩ = some (.float .f64 0) := fun u => u.cell g2
        refine region_quietO (by kernel_rfl) (by kernel_rfl) Tr (fun O hO => ?_)
        repeat (quiet_step (first | (go_at_call 19; with_reducible exact quietB_of (hmk _)) | (go_at_call_of 31 (Value.agg #[Value.float FloatKind.f64 x, Value.float FloatKind.f64 0]); with_reducible exact quietB_of (cs _))))
        refine wpQuiet_nil ?_
        intro w' hw'
        obtain ⟨u, rfl⟩ := hw'
        have hb' := hb.trans (u.below.mono hb.size)
        go_wp2
        go_roundg (N + 12 - (k + 1))
        case measure => rw [HG.out]; omega
        case rel => exact ⟨k + 1, by omega, rfl, by go_num, hb'⟩
    · have i0 : ¬ (k : Int) < ((N + 12 : Nat) : Int) := by omega
      have i0' : ¬ (k : Int) < (N : Int) + 12 := by omega
      go_wp2
      go_ret
      exact ⟨rfl, hb⟩
end Go.Proofs.YtajcfdcmbiffbaaGreatDoor

namespace Go.Proofs.YtajcfdcmbiffbaaGreatDoor
open Go.RowKit

theorem shullL_any (ps : List (Nat × Nat)) (ao : Option Addr) (cap : Nat) (w : World) (hr : SRow w ao ps) (hF : FS ps) (hn : ps.length ≤ 1125899906842624) (hcap : ps.length < cap) :
    Calls Tryz.prog 6 #[.slice ao ps.length cap] w fun e w' => e = .returned (tsE (hlA ps)) ∧ Below w.heap.size w w' := by
  by_cases h0 : ps.length = 0
  · have e : hlA ps = ((0, 0), 2) := by unfold hlA; rw [if_pos h0]
    rw [e, h0]
    exact shullL_nil ao cap w
  · cases hq : rtL ps
    · have e : hlA ps = ((0, 0), 2) := by unfold hlA; rw [if_neg h0, hq]; rfl
      rw [e]
      exact shullL_not ps ao cap w hr h0 hn hq
    · have e : hlA ps = (hlK ps (ps.length - 1), 0) := by unfold hlA; rw [if_neg h0, hq]; rfl
      rw [e]
      exact shullL_yes ps ao cap w hr hF h0 hn hcap hq
theorem rhullL_all (ps : List (Nat × Nat)) (ao : Option Addr) (cap : Nat) (w : World) (hr : SRow w ao ps) (hF : FS ps) (hn : ps.length ≤ 1125899906842624) :
    Calls Tryz.prog 7 #[.slice ao ps.length cap] w fun e w' => e = .returned (tsE (hlA ps)) ∧ Below w.heap.size w w' := by
  by_cases h0 : ps.length = 0
  · have e : hlA ps = ((0, 0), 2) := by unfold hlA; rw [if_pos h0]
    rw [e, h0]
    exact rhullL_nil ao cap w
  · exact rhullL_any ps ao cap w hr hF h0 hn
theorem sdotL_any (ps qs : List (Nat × Nat)) (ao bo : Option Addr) (cap bcap : Nat) (w : World) (hT : TabW w) (hr : SRow w ao ps) (hs : SRow w bo qs) (hF : FS ps) (hG : FS qs) (hn : ps.length ≤ 1125899906842624) :
    Calls Tryz.prog 10 #[.slice ao ps.length cap, .slice bo qs.length bcap] w fun e w' => e = .returned (tsE (dtA ps qs)) ∧ Below w.heap.size w w' := by
  by_cases he : ps.length = qs.length
  · cases hq : (rtL ps && rtL qs)
    · have e : dtA ps qs = ((0, 0), 2) := by unfold dtA; rw [if_pos he, hq]; rfl
      rw [e]
      exact sdotL_not ps qs ao bo cap bcap w hr hs hn he hq
    · have e : dtA ps qs = (dtP ps qs ps.length, 0) := by unfold dtA; rw [if_pos he, hq]; rfl
      rw [e]
      simp only [Bool.and_eq_true] at hq
      exact sdotL_yes ps qs ao bo cap bcap w hT hr hs hF hG hn he hq.1 hq.2
  · have e : dtA ps qs = ((0, 0), 4) := by unfold dtA; rw [if_neg he]
    rw [e]
    exact sdotL_shape _ _ ao bo cap bcap he w
theorem rdotL_any (ps qs : List (Nat × Nat)) (ao bo : Option Addr) (cap bcap : Nat) (w : World) (hT : TabW w) (hr : SRow w ao ps) (hs : SRow w bo qs) (hF : FS ps) (hG : FS qs) (hn : ps.length ≤ 1125899906842624) :
    Calls Tryz.prog 11 #[.slice ao ps.length cap, .slice bo qs.length bcap] w fun e w' => e = .returned (tsE (dtA ps qs)) ∧ Below w.heap.size w w' := by
  by_cases he : ps.length = qs.length
  · cases hq : (rtL ps && rtL qs)
    · have e : dtA ps qs = ((0, 0), 2) := by unfold dtA; rw [if_pos he, hq]; rfl
      rw [e]
      exact rdotL_not ps qs ao bo cap bcap w hr hs hF hG hn he hq
    · have e : dtA ps qs = (dtP ps qs ps.length, 0) := by unfold dtA; rw [if_pos he, hq]; rfl
      rw [e]
      simp only [Bool.and_eq_true] at hq
      exact rdotL_yes ps qs ao bo cap bcap w hT hr hs hF hG hn he hq.1 hq.2
  · have e : dtA ps qs = ((0, 0), 4) := by unfold dtA; rw [if_neg he]
    rw [e]
    exact rdotL_shape _ _ ao bo cap bcap he w
theorem wdP_zero : WdP (0, 0) := ⟨by omega, by omega⟩
theorem hlA_wd {ps : List (Nat × Nat)} (hF : FS ps) : WdP (hlA ps).1 := by
  unfold hlA
  split
  · exact wdP_zero
  · split
    · exact hlK_wd hF _ (by omega)
    · exact wdP_zero
theorem smA_wd {ps : List (Nat × Nat)} (hF : FS ps) : WdP (smA ps).1 := by
  unfold smA
  split
  · rename_i h
    have := smP_rt hF h ps.length (Nat.le_refl _)
    rw [List.take_length] at this
    exact ⟨this.1, this.2.1⟩
  · exact wdP_zero
theorem dtA_wd {ps qs : List (Nat × Nat)} (hF : FS ps) (hG : FS qs) : WdP (dtA ps qs).1 := by
  unfold dtA
  split
  · rename_i he
    split
    · rename_i h
      simp only [Bool.and_eq_true] at h
      have := dtP_rt hF h.1 hG h.2 ps.length (Nat.le_refl _) (by omega)
      exact ⟨this.1, this.2.1⟩
    · exact wdP_zero
  · exact wdP_zero
set_option maxHeartbeats 1000000 in
theorem lists_long (n m : Nat) (ao bo : Option Addr) (cap bcap : Nat) (w : World) (hL : 3000 < n ∨ 3000 < m) :
    Calls Tryz.prog 3 #[.slice ao n cap, .slice bo m bcap] w fun e w' => e = .returned (.bool true) ∧ Below w.heap.size w w' := by
  by_cases h1 : 3000 < n
  · have i1 : (3000 : Int) < (n : Int) := by omega
    clear hL
    go_enter Tryz.func3, Tryz.ntmps3
    go_wp2_with (go_at_call 4; refine (sawake _).mono ?_; rintro e v0 ⟨rfl, b0⟩)
    go_ret
    exact ⟨rfl, b0⟩
  · have i1 : ¬ (3000 : Int) < (n : Int) := by omega
    have i2 : (3000 : Int) < (m : Int) := by omega
    clear hL
    go_enter Tryz.func3, Tryz.ntmps3
    go_wp2_with (go_at_call 4; refine (sawake _).mono ?_; rintro e v0 ⟨rfl, b0⟩)
    go_ret
    exact ⟨rfl, b0⟩
theorem blw {w v v' : World} {o : Obj} (Z : Below w.heap.size w v) (b : Below (v.alloc o).heap.size (v.alloc o) v') : Below w.heap.size w v' := bstep Z b
set_option maxRecDepth 100000 in
set_option maxHeartbeats 4000000 in
theorem lists_law (ps qs : List (Nat × Nat)) (ao bo : Option Addr) (cap bcap : Nat) (w : World) (hT : TabW w) (hr : SRow w ao ps) (hs : SRow w bo qs) (hF : FS ps) (hG : FS qs) (sa : ao = none → cap = 0 ∧ ps.length = 0) (sb : bo = none → bcap = 0 ∧ qs.length = 0) :
    Calls Tryz.prog 3 #[.slice ao ps.length cap, .slice bo qs.length bcap] w fun e w' => e = .returned (.bool true) ∧ Below w.heap.size w w' := by
  by_cases hL : 3000 < ps.length ∨ 3000 < qs.length
  · exact lists_long _ _ ao bo cap bcap w hL
  · have n1 : ps.length ≤ 3000 := by omega
    have n2 : qs.length ≤ 3000 := by omega
    have cl1 := fun w h => lentS_any ps ao cap w h sa (by omega)
    have cl2 := fun w h => lentS_any qs bo bcap w h sb (by omega)
    have ck1 := fun g w hT h hl => keptS_any ps ao cap g w hT h hF hl (by omega)
    have ck2 := fun g w hT h hl => keptS_any qs bo bcap g w hT h hG hl (by omega)
    have ch := fun g cap w h h2 => shullL_any ps (some ⟨g, 0, none⟩) cap w h hF (by omega) h2
    have dh := fun w h => rhullL_all ps ao cap w h hF (by omega)
    have cm := fun g cap w hT h => ssumL_any ps (some ⟨g, 0, none⟩) cap w hT h hF (by omega)
    have dm := fun w hT h => rsumL_any ps ao cap w hT h hF (by omega)
    have cd := fun g g2 cap bcap w hT h h2 => sdotL_any ps qs (some ⟨g, 0, none⟩) (some ⟨g2, 0, none⟩) cap bcap w hT h h2 hF hG (by omega)
    have dd := fun w hT h h2 => rdotL_any ps qs ao bo cap bcap w hT h h2 hF hG (by omega)
    have w1 := hlA_wd hF
    have w2 := smA_wd hF
    have w3 := dtA_wd hF hG
    obtain ⟨⟨⟨h0, h1⟩, h2⟩, e1⟩ : ∃ t, hlA ps = t := ⟨_, rfl⟩
    obtain ⟨⟨⟨s0, s1⟩, s2⟩, e2⟩ : ∃ t, smA ps = t := ⟨_, rfl⟩
    obtain ⟨⟨⟨d0, d1⟩, d2⟩, e3⟩ : ∃ t, dtA ps qs = t := ⟨_, rfl⟩
    rw [e1] at ch dh w1
    rw [e2] at cm dm w2
    rw [e3] at cd dd w3
    have th := fun w => told_self h0 h1 h2 w1.1 w1.2 w
    have ts := fun w => told_self s0 s1 s2 w2.1 w2.2 w
    have td := fun w => told_self d0 d1 d2 w3.1 w3.2 w
    try simp only at ch dh cm dm cd dd
    obtain ⟨N, hN⟩ : ∃ N, ps.length = N := ⟨_, rfl⟩
    obtain ⟨M, hM⟩ : ∃ N, qs.length = N := ⟨_, rfl⟩
    rw [hN] at cl1 ck1 ch dh cm dm cd dd n1 ⊢
    rw [hM] at cl2 ck2 cd dd n2 ⊢
    clear e1 e2 e3 w1 w2 w3 hL sa sb hF hG hN hM
    have i1 : ¬ (3000 : Int) < (N : Int) := by omega
    have i2 : ¬ (3000 : Int) < (M : Int) := by omega
    have hst := run_storef Tryz.prog
    go_enter Tryz.func3, Tryz.ntmps3
    go_upto_region 5 with (go_at_call 4; refine (sawake _).mono ?_; rintro e v0 ⟨rfl, Z0⟩)
    go_upto_region 6 with (first
      | (go_at_call_of 5 (Value.slice ao N cap); refine (cl1 _ (hr.below Z0)).mono ?_; rintro e v1 ⟨rfl, L1, b1⟩; have Z1 := Z0.trans (b1.mono Z0.size))
      | (go_at_call_of 5 (Value.slice bo M bcap); refine (cl2 _ (hs.below Z1)).mono ?_; rintro e v2 ⟨rfl, L2, b2⟩; have Z2 := Z1.trans (b2.mono Z1.size)))
    replace L1 := L1.below b2
    generalize v0.heap.size = g1 at *
    generalize v1.heap.size = g2 at *
    clear cl1 cl2 b1 b2 Z0 Z1
    go_upto_region 7 with (go_at_call 6; refine (ch _ _ _ L1.row (by omega)).mono ?_; rintro e v3 ⟨rfl, b3⟩; have L1 := L1.below b3; have L2 := L2.below b3; have Z3 := Z2.trans (b3.mono Z2.size))
    go_upto_region 8 with (go_at_call 7; refine (dh _ (hr.below (Z3.alloc Z3.size _))).mono ?_; rintro e v4 ⟨rfl, b4⟩; have A0 := (Bx.new v3 (.float .f64 h0) (.float .f64 h1) 27).below b4; have L1 := (L1.below ((Below.refl _ _).alloc (Nat.le_refl _) _)).below b4; have L2 := (L2.below ((Below.refl _ _).alloc (Nat.le_refl _) _)).below b4; have Z4 := blw Z3 b4)
    go_upto_region 9 with (go_at_call 8; refine (cm _ _ _ (tabW_below hT (Z4.alloc Z4.size _)) (L1.below ((Below.refl _ _).alloc (Nat.le_refl _) _)).row).mono ?_; rintro e v5 ⟨rfl, b5⟩; have A0 := (A0.alloc _).below b5; have A1 := (Bx.new v4 (.float .f64 h0) (.float .f64 h1) 27).below b5; have L1 := (L1.below ((Below.refl _ _).alloc (Nat.le_refl _) _)).below b5; have L2 := (L2.below ((Below.refl _ _).alloc (Nat.le_refl _) _)).below b5; have Z5 := blw Z4 b5)
    go_upto_region 10 with (go_at_call 9; refine (dm _ (tabW_below hT (Z5.alloc Z5.size _)) (hr.below (Z5.alloc Z5.size _))).mono ?_; rintro e v6 ⟨rfl, b6⟩; have A0 := (A0.alloc _).below b6; have A1 := (A1.alloc _).below b6; have A2 := (Bx.new v5 (.float .f64 s0) (.float .f64 s1) 27).below b6; have L1 := (L1.below ((Below.refl _ _).alloc (Nat.le_refl _) _)).below b6; have L2 := (L2.below ((Below.refl _ _).alloc (Nat.le_refl _) _)).below b6; have Z6 := blw Z5 b6)
    go_upto_region 11 with (go_at_call 10; refine (cd _ _ _ _ _ (tabW_below hT (Z6.alloc Z6.size _)) (L1.below ((Below.refl _ _).alloc (Nat.le_refl _) _)).row (L2.below ((Below.refl _ _).alloc (Nat.le_refl _) _)).row).mono ?_; rintro e v7 ⟨rfl, b7⟩; have A0 := (A0.alloc _).below b7; have A1 := (A1.alloc _).below b7; have A2 := (A2.alloc _).below b7; have A3 := (Bx.new v6 (.float .f64 s0) (.float .f64 s1) 27).below b7; have L1 := (L1.below ((Below.refl _ _).alloc (Nat.le_refl _) _)).below b7; have L2 := (L2.below ((Below.refl _ _).alloc (Nat.le_refl _) _)).below b7; have Z7 := blw Z6 b7)
    go_upto_region 12 with (go_at_call 11; refine (dd _ (tabW_below hT (Z7.alloc Z7.size _)) (hr.below (Z7.alloc Z7.size _)) (hs.below (Z7.alloc Z7.size _))).mono ?_; rintro e v8 ⟨rfl, b8⟩; have A0 := (A0.alloc _).below b8; have A1 := (A1.alloc _).below b8; have A2 := (A2.alloc _).below b8; have A3 := (A3.alloc _).below b8; have A4 := (Bx.new v7 (.float .f64 d0) (.float .f64 d1) 27).below b8; have L1 := (L1.below ((Below.refl _ _).alloc (Nat.le_refl _) _)).below b8; have L2 := (L2.below ((Below.refl _ _).alloc (Nat.le_refl _) _)).below b8; have Z8 := blw Z7 b8)
    have A5 := Bx.new v8 (.float .f64 d0) (.float .f64 d1) 27
    have A0 := A0.alloc (.cells #[.float .f64 d0, .float .f64 d1] 27)
    have A1 := A1.alloc (.cells #[.float .f64 d0, .float .f64 d1] 27)
    have A2 := A2.alloc (.cells #[.float .f64 d0, .float .f64 d1] 27)
    have A3 := A3.alloc (.cells #[.float .f64 d0, .float .f64 d1] 27)
    have A4 := A4.alloc (.cells #[.float .f64 d0, .float .f64 d1] 27)
    have L1 := L1.below ((Below.refl _ _).alloc (Nat.le_refl _) (.cells #[.float .f64 d0, .float .f64 d1] 27))
    have L2 := L2.below ((Below.refl _ _).alloc (Nat.le_refl _) (.cells #[.float .f64 d0, .float .f64 d1] 27))
    have Z9 := Z8.alloc Z8.size (.cells #[.float .f64 d0, .float .f64 d1] 27)
    generalize v8.alloc (.cells #[.float .f64 d0, .float .f64 d1] 27) = W at *
    generalize v3.heap.size = q0 at *
    generalize v4.heap.size = q1 at *
    generalize v5.heap.size = q2 at *
    generalize v6.heap.size = q3 at *
    generalize v7.heap.size = q4 at *
    generalize v8.heap.size = q5 at *
    clear Z8 Z7 Z6 Z5 Z4 Z3 Z2 ch dh cm dm cd dd
    have k0 := A0.1
    have j0 := A0.2.1
    have k1 := A1.1
    have j1 := A1.2.1
    go_wp2_with (first
      | (go_at_call_of 12 (Value.agg #[Value.float FloatKind.f64 h0, Value.float FloatKind.f64 h1]); refine (th _).mono ?_; rintro e y0 ⟨rfl, c0⟩; have k2 := (A2.below c0).1; have j2 := (A2.below c0).2.1; have k3 := (A3.below c0).1; have j3 := (A3.below c0).2.1)
      | (go_at_call_of 12 (Value.agg #[Value.float FloatKind.f64 s0, Value.float FloatKind.f64 s1]); refine (ts _).mono ?_; rintro e y1 ⟨rfl, c1⟩; have c1 := c0.trans (c1.mono c0.size); have k4 := (A4.below c1).1; have j4 := (A4.below c1).2.1; have k5 := (A5.below c1).1; have j5 := (A5.below c1).2.1)
      | (go_at_call_of 12 (Value.agg #[Value.float FloatKind.f64 d0, Value.float FloatKind.f64 d1]); refine (td _).mono ?_; rintro e y2 ⟨rfl, c2⟩; have c2 := c1.trans (c2.mono c1.size); have Z10 := Z9.trans (c2.mono Z9.size))
      | (go_at_call_of 13 (Value.slice ao N cap); refine (ck1 _ _ (tabW_below hT Z10) (hr.below Z10) (L1.below c2)).mono ?_; rintro e y3 ⟨rfl, c3⟩; have c3 := c2.trans (c3.mono c2.size); have Z11 := Z9.trans (c3.mono Z9.size))
      | (go_at_call_of 13 (Value.slice bo M bcap); refine (ck2 _ _ (tabW_below hT Z11) (hs.below Z11) (L2.below c3)).mono ?_; rintro e y4 ⟨rfl, c4⟩; have c4 := c3.trans (c4.mono c3.size); have Z12 := Z9.trans (c4.mono Z9.size)))
    go_ret
    exact ⟨rfl, Z12⟩
end Go.Proofs.YtajcfdcmbiffbaaGreatDoor
