/- What the kit's KeptJoints answers of joints that were lent and stayed. -/
import Derived.Test.YtkjgilffljlanaaGreatDoorWA
import Derived.Laws.OwnMore
import Derived.Deep.AppendLies
import Derived.OwnWalk
import Derived.Test.YtkjgilffljlanaaGreatDoorJA
import Derived.Laws.IdiomStrings
namespace Go.Proofs.YtkjgilffljlanaaGreatDoor
open Go.RowKit
theorem info_span {P : Program} {t : TypeId} {z : Option Value} {s b : Nat} (h : (P.info? t).map (fun i => (i.zero, i.size, i.bytes)) = some (z, s, b)) : ∃ i, P.info? t = some i ∧ i.zero = z ∧ i.size = s ∧ i.bytes = b := by
 cases e : P.info? t with
 | none => rw [e] at h; cases h
 | some i =>
  rw [e] at h
  simp only [Option.map_some, Option.some.injEq, Prod.mk.injEq] at h
  exact ⟨i, rfl, h.1, h.2.1, h.2.2⟩
theorem region_quietO {P : Program} {id : Nat} {Q : Exit → Act → World → Prop} {a : Act} {w : World} {l : List Oper} (hm : P.follows .mixedOrders = true) (hB : Region.lexB .any l.toArray = true) (hT : TabW w)
  (h : ∀ O : Array Oper, (∀ j : Nat, O[j]? = l.toArray[j]?) → wpQuiet P O (fun w' => ∃ u : QOf w, w' = u.val) (fun a' => ∀ w', (∃ u : QOf w, w' = u.val) → Q .normal a' w') l a) : (Code.region id l.toArray true).wp P Q a w :=
 region_quietB hm hB hT (h _ (fun _ => rfl))
def mkT (i : Nat) : ByteArray := ⟨#[35, 1, 0, 0, 47, UInt8.ofNat i, 0, 0]⟩
theorem jeql (j : Jn) (w : World) : (binOp .eql 46 (jV j) (jV j)).run Tryz.prog w = .ok (.bool true) w := by
 obtain ⟨s, x, y, f⟩ := j
 unfold jV
 go_simp
 done
theorem bytes8 (i : Nat) (z : Int) (hi : i < 256) (hz : (i : Int) = z) (w : World) : (convert 49 9 (.slice (some ⟨w.heap.size, 0, none⟩) 8 8)).run Tryz.prog (w.alloc (.cells #[.int .u8 35, .int .u8 1, .int .u8 0, .int .u8 0, .int .u8 47, .int .u8 z, .int .u8 0, .int .u8 0] 5)) = .ok (.string (mkT i)) (w.alloc (.cells #[.int .u8 35, .int .u8 1, .int .u8 0, .int .u8 0, .int .u8 47, .int .u8 z, .int .u8 0, .int .u8 0] 5)) := by
 subst hz
 refine run_convert_bytes_back _ _ _ 5 _ 8 [35, 1, 0, 0, 47, UInt8.ofNat i, 0, 0] Tryz.underlying49 Tryz.underlying5 Tryz.underlying9 (fun j hj => ?_)
 have hj8 : j < 8 := hj
 rcases (show j = 0 ∨ j = 1 ∨ j = 2 ∨ j = 3 ∨ j = 4 ∨ j = 5 ∨ j = 6 ∨ j = 7 by omega) with rfl | rfl | rfl | rfl | rfl | rfl | rfl | rfl
 all_goals simp [go_sem, Addr.add]
 omega
set_option maxRecDepth 100000 in
set_option maxHeartbeats 1000000 in
theorem marktext_any (i : Nat) (hi : i < 12) (w : World) :
  Calls Tryz.prog 49 #[.int .i64 1, .int .i64 i] w fun e w' => e = .returned (.string (mkT i)) ∧ Below w.heap.size w w' := by
 go_enter Tryz.func49, Tryz.ntmps49
 rcases (show i = 0 ∨ i = 1 ∨ i = 2 ∨ i = 3 ∨ i = 4 ∨ i = 5 ∨ i = 6 ∨ i = 7 ∨ i = 8 ∨ i = 9 ∨ i = 10 ∨ i = 11 by omega) with rfl | rfl | rfl | rfl | rfl | rfl | rfl | rfl | rfl | rfl | rfl | rfl
 ·have hcv := bytes8 0 0 (by omega) rfl
  go_wp2
  go_ret
  exact ⟨rfl, (Below.refl _ _).alloc (Nat.le_refl _) _⟩
 ·have hcv := bytes8 1 1 (by omega) rfl
  go_wp2
  go_ret
  exact ⟨rfl, (Below.refl _ _).alloc (Nat.le_refl _) _⟩
 ·have hcv := bytes8 2 2 (by omega) rfl
  go_wp2
  go_ret
  exact ⟨rfl, (Below.refl _ _).alloc (Nat.le_refl _) _⟩
 ·have hcv := bytes8 3 3 (by omega) rfl
  go_wp2
  go_ret
  exact ⟨rfl, (Below.refl _ _).alloc (Nat.le_refl _) _⟩
 ·have hcv := bytes8 4 4 (by omega) rfl
  go_wp2
  go_ret
  exact ⟨rfl, (Below.refl _ _).alloc (Nat.le_refl _) _⟩
 ·have hcv := bytes8 5 5 (by omega) rfl
  go_wp2
  go_ret
  exact ⟨rfl, (Below.refl _ _).alloc (Nat.le_refl _) _⟩
 ·have hcv := bytes8 6 6 (by omega) rfl
  go_wp2
  go_ret
  exact ⟨rfl, (Below.refl _ _).alloc (Nat.le_refl _) _⟩
 ·have hcv := bytes8 7 7 (by omega) rfl
  go_wp2
  go_ret
  exact ⟨rfl, (Below.refl _ _).alloc (Nat.le_refl _) _⟩
 ·have hcv := bytes8 8 8 (by omega) rfl
  go_wp2
  go_ret
  exact ⟨rfl, (Below.refl _ _).alloc (Nat.le_refl _) _⟩
 ·have hcv := bytes8 9 9 (by omega) rfl
  go_wp2
  go_ret
  exact ⟨rfl, (Below.refl _ _).alloc (Nat.le_refl _) _⟩
 ·have hcv := bytes8 10 10 (by omega) rfl
  go_wp2
  go_ret
  exact ⟨rfl, (Below.refl _ _).alloc (Nat.le_refl _) _⟩
 ·have hcv := bytes8 11 11 (by omega) rfl
  go_wp2
  go_ret
  exact ⟨rfl, (Below.refl _ _).alloc (Nat.le_refl _) _⟩
def mkJ (i : Nat) : Jn := (mkT i, 0, 0, 0)
set_option maxHeartbeats 1000000 in
theorem markjoint_any (i : Nat) (hi : i < 12) (w : World) :
  Calls Tryz.prog 27 #[.int .i64 1, .int .i64 i] w fun e w' => e = .returned (jV (mkJ i)) ∧ Below w.heap.size w w' := by
 have cm := fun w => marktext_any i hi w
 unfold mkJ jV
 simp only
 generalize mkT i = s at *
 have X0 := JBox.new w (.string ByteArray.empty) (.int .i32 0) (.int .i32 0) (.int .u8 0) 46
 have hb0 : Below w.heap.size w (w.alloc (.cells #[.string ByteArray.empty, .int .i32 0, .int .i32 0, .int .u8 0] 46)) := (Below.refl _ _).alloc (Nat.le_refl _) _
 go_enter Tryz.func27, Tryz.ntmps27
 go_wp2_with (go_at_call 49; refine (cm _).mono ?_; rintro e w1 ⟨rfl, b1⟩; have X1 := X0.below b1; have hb1 := hb0.trans (b1.mono hb0.size); obtain ⟨x0, x1, x2, x3, f0, f1, f2, f3, xl⟩ := id X1)
 exact bodyPost_ret (v := .agg #[.string s, .int .i32 0, .int .i32 0, .int .u8 0]) (by simp [results, Tryz.results27, go_sem, x0, x1, x2, x3]) rfl ⟨rfl, (((hb1.setCell (p := ⟨w.heap.size, 0, none⟩) (Nat.le_refl _) _).setCell (p := ⟨w.heap.size, 1, none⟩) (Nat.le_refl _) _).setCell (p := ⟨w.heap.size, 2, none⟩) (Nat.le_refl _) _).setCell (p := ⟨w.heap.size, 3, none⟩) (Nat.le_refl _) _⟩
theorem Tryz.infoJ : (Tryz.prog.info? 46).map (fun i => (i.zero, i.size, i.bytes)) = some (some (.agg #[.string ByteArray.empty, .int .i32 0, .int .i32 0, .int .u8 0]), 4, 32) := by kernel_rfl
def jnc : List Jn → List Value
 | [] => []
 | p :: ps => .string p.1 :: .int .i32 p.2.1 :: .int .i32 p.2.2.1 :: .int .u8 p.2.2.2 :: jnc ps
theorem jnc_len : ∀ ps : List Jn, (jnc ps).length = ps.length * 4
 | [] => rfl
 | _ :: ps => by simp only [jnc, List.length_cons, jnc_len ps]; omega
theorem jnc_app : ∀ ps qs : List Jn, jnc (ps ++ qs) = jnc ps ++ jnc qs
 | [], _ => rfl
 | p :: ps, qs => by simp only [List.cons_append, jnc, jnc_app ps qs]
theorem jnc_one : ∀ (ps : List Jn) (u : Value), u ∈ jnc ps → u.oneCell' = true
 | [], _, h => by cases h
 | p :: ps, u, h => by
  simp only [jnc, List.mem_cons] at h
  rcases h with rfl | rfl | rfl | rfl | h
  ·rfl
  ·rfl
  ·rfl
  ·rfl
  ·exact jnc_one ps u h
theorem jnc_at : ∀ (ps : List Jn) (j : Nat), j < ps.length → (jnc ps)[j * 4]? = some (.string (ps.getD j jz).1) ∧ (jnc ps)[j * 4 + 1]? = some (.int .i32 (ps.getD j jz).2.1) ∧ (jnc ps)[j * 4 + 2]? = some (.int .i32 (ps.getD j jz).2.2.1) ∧ (jnc ps)[j * 4 + 3]? = some (.int .u8 (ps.getD j jz).2.2.2)
 | [], _, h => by simp at h
 | p :: ps, 0, _ => by simp [jnc]
 | p :: ps, j + 1, h => by
  have := jnc_at ps j (by simpa using h)
  rw [show (j + 1) * 4 = j * 4 + 1 + 1 + 1 + 1 by omega]
  simpa [jnc] using this
def mkL (n : Nat) : List Jn := (List.range n).map mkJ
theorem mkL_len (n : Nat) : (mkL n).length = n := by simp [mkL]
theorem mkL_succ (n : Nat) : mkL (n + 1) = mkL n ++ [mkJ n] := by simp [mkL, List.range_succ]
theorem mkL_at {n i : Nat} (h : i < n) : (mkL n).getD i jz = mkJ i := by simp [mkL, List.getD_eq_getElem?_getD, h]
theorem jrown_base {w : World} {b c : Nat} {e : TypeId} {s : Nat} {v : Value} {n : Nat} {xs : List Value} (h : w.ownsRow b e s v n xs) (hc : c ≤ b) : w.ownsRow c e s v n xs := by
 refine ⟨h.1, ?_⟩
 rcases h.2 with hn | ⟨g, cap, cur, h1, h2, h3⟩
 ·exact Or.inl hn
 ·exact Or.inr ⟨g, cap, cur, h1, Nat.le_trans hc h2, h3⟩
theorem jrown_below {w w' : World} {b : Nat} {e : TypeId} {s : Nat} {v : Value} {n : Nat} {xs : List Value} (h : w.ownsRow b e s v n xs) (hb : Below w.heap.size w w') : w'.ownsRow b e s v n xs := by
 refine ⟨h.1, ?_⟩
 rcases h.2 with hn | ⟨g, cap, cur, h1, h2, h3, h4⟩
 ·exact Or.inl hn
 ·have hl : g < w.heap.size := by
   rcases Nat.lt_or_ge g w.heap.size with q | q
   ·exact q
   ·rw [Array.getElem?_eq_none q] at h3; cases h3
  exact Or.inr ⟨g, cap, cur, h1, h2, by rw [hb.block g hl]; exact h3, h4⟩
def LentJ (w : World) (g : Nat) (ps : List Jn) : Prop := w.ownsRow 0 46 4 (.slice (some ⟨g, 0, none⟩) (ps.length + 12) (ps.length + 12)) (ps.length + 12) (jnc (ps ++ mkL 12))
def JAt (w : World) (b off : Nat) (j : Jn) : Prop := w.cell? ⟨b, off, none⟩ = some (.string j.1) ∧ w.cell? ⟨b, off + 1, none⟩ = some (.int .i32 j.2.1) ∧ w.cell? ⟨b, off + 2, none⟩ = some (.int .i32 j.2.2.1) ∧ w.cell? ⟨b, off + 3, none⟩ = some (.int .u8 j.2.2.2)
theorem LentJ.cell {w : World} {g : Nat} {ps : List Jn} (h : LentJ w g ps) {j : Nat} (hj : j < ps.length + 12) : JAt w g (j * 4) ((ps ++ mkL 12).getD j jz) := by
 have e0 := World.ownsRow.cellAt h (j * 4) (by omega)
 have e1 := World.ownsRow.cellAt h (j * 4 + 1) (by omega)
 have e2 := World.ownsRow.cellAt h (j * 4 + 2) (by omega)
 have e3 := World.ownsRow.cellAt h (j * 4 + 3) (by omega)
 have hs := jnc_at (ps ++ mkL 12) j (by rw [List.length_append, mkL_len]; exact hj)
 exact ⟨e0.trans hs.1, e1.trans hs.2.1, e2.trans hs.2.2.1, e3.trans hs.2.2.2⟩
theorem lentJ_low {ps : List Jn} {k : Nat} (h : k < ps.length) : (ps ++ mkL 12).getD k jz = ps.getD k jz := by
 rw [List.getD_eq_getElem?_getD, List.getD_eq_getElem?_getD, List.getElem?_append_left h]
theorem lentJ_high {ps : List Jn} {k : Nat} (h : ps.length ≤ k) (h2 : k < ps.length + 12) : (ps ++ mkL 12).getD k jz = mkJ (k - ps.length) := by
 rw [List.getD_eq_getElem?_getD, List.getElem?_append_right h, ← List.getD_eq_getElem?_getD, mkL_at (by omega)]
theorem LentJ.row {w : World} {g : Nat} {ps : List Jn} (h : LentJ w g ps) : JRow w (some ⟨g, 0, none⟩) ps := by
 refine Or.inr ⟨g, 0, rfl, fun j hj => ?_⟩
 have := h.cell (j := j) (by omega)
 rw [lentJ_low hj] at this
 unfold JAt at this
 simpa using this
theorem LentJ.lt {w : World} {g : Nat} {ps : List Jn} (h : LentJ w g ps) : g < w.heap.size := World.block_lt_of_cell? w _ (h.cell (j := 0) (by omega)).1
theorem LentJ.below {w w' : World} {g : Nat} {ps : List Jn} (h : LentJ w g ps) (hb : Below w.heap.size w w') : LentJ w' g ps := jrown_below h hb
set_option maxHeartbeats 2000000 in
theorem lentJ_any (ps : List Jn) (ao : Option Addr) (cap : Nat) (w : World) (hr : JRow w ao ps) (hs : ao = none → cap = 0 ∧ ps.length = 0) (hn : ps.length ≤ 4398046511104) :
  Calls Tryz.prog 10 #[.slice ao ps.length cap] w fun e w' => e = .returned (.slice (some ⟨w.heap.size, 0, none⟩) ps.length (ps.length + 12)) ∧ LentJ w' w.heap.size ps ∧ Below w.heap.size w w' := by
 obtain ⟨i0, hi, hz0, hz1, hz2⟩ := info_span Tryz.infoJ
 have hnews : ∀ w1, w.grownBy w1 none → ∀ ad, ao = some ad → ∀ j u, (jnc ps)[j]? = some u → w1.cell? (ad.add j) = some u := by
  intro w1 hg ad e j u hu
  have hj : j < ps.length * 4 := by
   have := (List.getElem?_eq_some_iff.1 hu).1
   rw [jnc_len] at this; exact this
  have hb : Below w.heap.size w w1 := (Below.refl _ _).grown hg (Nat.le_refl _) (fun k hk => by cases hk)
  rcases hr.below hb with h | ⟨b, off, e2, hc⟩
  ·omega
  ·rw [e2] at e
   cases e
   have hadd : (⟨b, off, none⟩ : Addr).add j = ⟨b, off + j, none⟩ := by
    unfold Addr.add
    split
    ·rename_i h; subst h; rfl
    ·rfl
   rw [hadd]
   have g := hc (j / 4) (by omega)
   have s := jnc_at ps (j / 4) (by omega)
   rcases (show j = j / 4 * 4 ∨ j = j / 4 * 4 + 1 ∨ j = j / 4 * 4 + 2 ∨ j = j / 4 * 4 + 3 by omega) with q | q | q | q
   ·rw [← q] at g s
    rw [s.1] at hu; cases hu; exact g.1
   ·rw [Nat.add_assoc off _ 1, ← q] at g
    rw [← q] at s
    rw [s.2.1] at hu; cases hu; exact g.2.1
   ·rw [Nat.add_assoc off _ 2, ← q] at g
    rw [← q] at s
    rw [s.2.2.1] at hu; cases hu; exact g.2.2.1
   ·rw [Nat.add_assoc off _ 3, ← q] at g
    rw [← q] at s
    rw [s.2.2.2] at hu; cases hu; exact g.2.2.2
 go_enter Tryz.func10, Tryz.ntmps10
 go_wp2_with (first
  | (refine wpList_make_own _ rfl _ _ 22 rfl w.heap.size 46 i0 (.agg #[.string ByteArray.empty, .int .i32 0, .int .i32 0, .int .u8 0]) 4 Tryz.underlying22 hi hz0 hz1 .i64 .i64 _ (ps.length + 12) rfl rfl (by omega) (by rw [hz2]; omega) (by unfold maxLen; omega) (Nat.le_refl _) ?_; intro w1 hown1 hg1)
  | (at_builtin; refine wpList_append_fits_any _ rfl _ _ 22 rfl w.heap.size 46 i0 4 Tryz.underlying22 hi hz1 w.heap.size 0 (ps.length + 12) [] rfl hown1 ao ps.length cap (jnc ps) rfl (jnc_len ps) (fun h => ⟨(hs h).2, (hs h).1⟩) (hnews _ hg1) (jnc_one _) (by omega) ?_; intro w2 hown2 hg2))
 have hb2 : Below w.heap.size w w2 := ((Below.refl _ _).grown hg1 (Nat.le_refl _) (fun k hk => by cases hk)).grown hg2 (by have := hg1.size; omega) (fun k hk => by cases hk; exact Nat.le_refl _)
 rw [List.nil_append, Nat.zero_add] at hown2
 clear hown1 hg1 hg2 hnews
 go_loopg [4, 3] 12 (fun g i v wr => ∃ k : Nat, k ≤ 12 ∧ g = 12 - k ∧ i = .int .i64 k ∧ v = .slice (some ⟨w.heap.size, 0, none⟩) (ps.length + k) (ps.length + 12) ∧ wr.ownsRow w.heap.size 46 4 (.slice (some ⟨w.heap.size, 0, none⟩) (ps.length + k) (ps.length + 12)) (ps.length + k) (jnc (ps ++ mkL k)) ∧ Below w.heap.size w wr)
 case atStart => exact ⟨0, by omega, rfl, rfl, rfl, by simpa [mkL] using hown2, hb2⟩
 case round =>
  obtain ⟨k, hk, hg, rfl, rfl, hown, hb⟩ := hrel
  clear hown2 hb2
  have hbs := hb.size
  by_cases hlt : k < 12
  ·have j1 : (k : Int) < 12 := by omega
   have hmk := fun w => markjoint_any k hlt w
   obtain ⟨x, hx⟩ : ∃ x, mkT k = x := ⟨_, rfl⟩
   unfold jV mkJ at hmk
   simp only [hx] at hmk
   have HT : Hid (jnc (ps ++ mkL (k + 1)) = jnc (ps ++ mkL k) ++ [.string x, .int .i32 0, .int .i32 0, .int .u8 0]) := (show _ = _ by rw [mkL_succ, ← List.append_assoc, jnc_app]; unfold mkJ; rw [hx]; rfl)
   clear hx
   go_wp2_with (first
    | (go_at_call 27; refine (hmk _).mono ?_; rintro e w1 ⟨rfl, b1⟩; have hown1 := jrown_below hown b1; have hbb := hb.trans (b1.mono hb.size))
    | (at_builtin; refine wpList_append_fits _ rfl _ _ 22 rfl w.heap.size 46 i0 4 Tryz.underlying22 hi hz1 w.heap.size (ps.length + k) (ps.length + 12) (jnc (ps ++ mkL k)) rfl (hown1.alloc _) ⟨_, 0, none⟩ 1 1 [.string x, .int .i32 0, .int .i32 0, .int .u8 0] rfl rfl (World.news_of_block (cs := #[.string x, .int .i32 0, .int .i32 0, .int .u8 0]) (t := 46) (fr := (0, 0)) (heap_alloc_new _ _)) (by simp [Value.oneCell']) (by omega) ?_; intro w3 hown3 hg3))
   have hown4 : w3.ownsRow w.heap.size 46 4 (.slice (some ⟨w.heap.size, 0, none⟩) (ps.length + (k + 1)) (ps.length + 12)) (ps.length + (k + 1)) (jnc (ps ++ mkL (k + 1))) := by rw [HT.out]; exact hown3
   have hb3 : Below w.heap.size w w3 := (hbb.alloc hbb.size _).grown hg3 (by simp; have := hbb.size; omega) (fun k hk => by cases hk; exact Nat.le_refl _)
   clear hown3 hg3 hown hb HT
   go_wp2
   go_roundg (12 - (k + 1))
   case measure => omega
   case rel => exact ⟨k + 1, by omega, rfl, by go_num, by go_num, hown4, hb3⟩
  ·obtain rfl : k = 12 := by omega
   have hL : LentJ wr w.heap.size ps := jrown_base hown (Nat.zero_le _)
   have j1 : ((ps.length : Int)) ≤ ((ps.length + 12 : Nat) : Int) := by omega
   go_wp2
   go_ret
   exact ⟨rfl, hL, hb⟩
set_option maxHeartbeats 4000000 in
set_option maxRecDepth 100000 in
theorem keptJ_any (ps : List Jn) (ao : Option Addr) (cap g : Nat) (w : World) (hT : TabW w) (hr : JRow w ao ps) (hl : LentJ w g ps) (hn : ps.length ≤ 4398046511104) :
  Calls Tryz.prog 22 #[.slice (some ⟨g, 0, none⟩) ps.length (ps.length + 12), .slice ao ps.length cap] w fun e w' => e = .returned (.bool true) ∧ Below w.heap.size w w' := by
 have HC : Hid (∀ k, k < ps.length + 12 → ∀ w', LentJ w' g ps → JAt w' g (k * 4) ((ps ++ mkL 12).getD k jz)) := fun k hk w' h => h.cell hk
 have HL : Hid (∀ k, k < ps.length → (ps ++ mkL 12).getD k jz = ps.getD k jz) := fun k hk => lentJ_low hk
 have HH : Hid (∀ k, ps.length ≤ k → k < ps.length + 12 → (ps ++ mkL 12).getD k jz = mkJ (k - ps.length)) := fun k h1 h2 => lentJ_high h1 h2
 obtain ⟨N, hN⟩ : ∃ N, ps.length = N := ⟨_, rfl⟩
 have HN : Hid (ps.length = N) := hN
 rw [hN] at hn HC HL HH ⊢
 clear hN
 have c0 : ((N : Int) != (N : Int)) = false := by simp
 have c1 : (N : Int) + 12 ≤ ((N + 12 : Nat) : Int) := by omega
 go_enter Tryz.func22, Tryz.ntmps22
 go_wp2
 go_loopg [6] (N + 12) (fun gg i wr => ∃ k : Nat, k ≤ N + 12 ∧ gg = N + 12 - k ∧ i = .int .i64 k ∧ Below w.heap.size w wr)
 case atStart => exact ⟨0, by omega, rfl, rfl, Below.refl _ _⟩
 case round =>
  obtain ⟨k, hk, hg, rfl, hb⟩ := hrel
  have HG : Hid (gk = N + 12 - k) := hg
  clear hg
  have hr2 := hr.below hb
  have hl2 := hl.below hb
  have Tr := tabW_below hT hb
  by_cases hlt : k < N + 12
  ·have gg := HC.out k hlt wr hl2
   have i0 : (k : Int) < ((N + 12 : Nat) : Int) := by omega
   have i0' : (k : Int) < (N : Int) + 12 := by omega
   by_cases hlo : k < N
   ·rcases hr2 with h | ⟨b, off, rfl, hc⟩
    ·exact absurd (HN.out ▸ h) (by omega)
    ·obtain ⟨d1, d2, d3, d4⟩ := hc k (by rw [HN.out]; exact hlo)
     rw [HL.out k hlo] at gg
     obtain ⟨g1, g2, g3, g4⟩ := gg
     have heq := jeql (ps.getD k jz)
     obtain ⟨⟨s, x, y, f⟩, hx⟩ : ∃ x, ps.getD k jz = x := ⟨_, rfl⟩
     rw [hx] at g1 g2 g3 g4 d1 d2 d3 d4 heq
     unfold jV at heq
     simp only at g1 g2 g3 g4 d1 d2 d3 d4 heq
     have i1 : (k : Int) < (N : Int) := by omega
     have i2 : decide ((k : Int) < (N : Int)) = true := decide_eq_true i1
     have i3 : decide (N ≤ k) = false := decide_eq_false (by omega)
     clear hc hx hl hl2 hr HC HL HH HN
     go_wp2
     have hne : Nonempty (QOf wr) := QOf.any Tr
     have k1 : ∀ u : QOf wr, u.val.cell? ⟨g, k * 4, none⟩ = some (.string s) := fun u => u.cell g1
     have k2 : ∀ u : QOf wr, u.val.cell? ⟨g, k * 4 + 1, none⟩ = some (.int .i32 x) := fun u => u.cell g2
     have k3 : ∀ u : QOf wr, u.val.cell? ⟨g, k * 4 + 2, none⟩ = some (.int .i32 y) := fun u => u.cell g3
     have k4 : ∀ u : QOf wr, u.val.cell? ⟨g, k * 4 + 3, none⟩ = some (.int .u8 f) := fun u => u.cell g4
     have k5 : ∀ u : QOf wr, u.val.cell? ⟨b, off + k * 4, none⟩ = some (.string s) := fun u => u.cell d1
     have k6 : ∀ u : QOf wr, u.val.cell? ⟨b, off + k * 4 + 1, none⟩ = some (.int .i32 x) := fun u => u.cell d2
     have k7 : ∀ u : QOf wr, u.val.cell? ⟨b, off + k * 4 + 2, none⟩ = some (.int .i32 y) := fun u => u.cell d3
     have k8 : ∀ u : QOf wr, u.val.cell? ⟨b, off + k * 4 + 3, none⟩ = some (.int .u8 f) := fun u => u.cell d4
     refine region_quietO (by kernel_rfl) (by kernel_rfl) Tr (fun O hO => ?_)
     repeat (quiet_step (fail))
     refine wpQuiet_nil ?_
     intro w' hw'
     obtain ⟨u, rfl⟩ := hw'
     have hb' := hb.trans (u.below.mono hb.size)
     go_wp2
     go_roundg (N + 12 - (k + 1))
     case measure => rw [HG.out]; omega
     case rel => exact ⟨k + 1, by omega, rfl, by go_num, hb'⟩
   ·rw [HH.out k (by omega) hlt] at gg
    have hmk := fun w => markjoint_any (k - N) (by omega) w
    have heq := jeql (mkJ (k - N))
    unfold mkJ jV at hmk heq
    unfold mkJ at gg
    obtain ⟨g1, g2, g3, g4⟩ := gg
    obtain ⟨x, hx⟩ : ∃ x, mkT (k - N) = x := ⟨_, rfl⟩
    rw [hx] at g1
    simp only [hx] at hmk heq
    simp only at g1 g2 g3 g4
    have e1 : ((k - N : Nat) : Int) = (k : Int) - (N : Int) := by omega
    rw [e1] at hmk
    have e2 : IntKind.i64.wrap ((k : Int) - (N : Int)) = (k : Int) - (N : Int) := by rw [IntKind.wrap_i64]; omega
    have i1 : ¬ (k : Int) < (N : Int) := by omega
    have i2 : decide ((k : Int) < (N : Int)) = false := decide_eq_false i1
    have i3 : decide (N ≤ k) = true := decide_eq_true (by omega)
    have i5 : decide (k < N) = false := decide_eq_false (by omega)
    have i4 : (N : Int) ≤ (k : Int) := by omega
    clear e1 hx hl hl2 hr hr2 HC HL HH HN
    go_wp2
    have hne : Nonempty (QOf wr) := QOf.any Tr
    have k1 : ∀ u : QOf wr, u.val.cell? ⟨g, k * 4, none⟩ = some (.string x) := fun u => u.cell g1
    have k2 : ∀ u : QOf wr, u.val.cell? ⟨g, k * 4 + 1, none⟩ = some (.int .i32 0) := fun u => u.cell g2
    have k3 : ∀ u : QOf wr, u.val.cell? ⟨g, k * 4 + 2, none⟩ = some (.int .i32 0) := fun u => u.cell g3
    have k4 : ∀ u : QOf wr, u.val.cell? ⟨g, k * 4 + 3, none⟩ = some (.int .u8 0) := fun u => u.cell g4
    refine region_quietO (by kernel_rfl) (by kernel_rfl) Tr (fun O hO => ?_)
    repeat (quiet_step ((go_at_call 27; with_reducible exact quietB_of (hmk _))))
    refine wpQuiet_nil ?_
    intro w' hw'
    obtain ⟨u, rfl⟩ := hw'
    have hb' := hb.trans (u.below.mono hb.size)
    go_wp2
    go_roundg (N + 12 - (k + 1))
    case measure => rw [HG.out]; omega
    case rel => exact ⟨k + 1, by omega, rfl, by go_num, hb'⟩
  ·have i0 : ¬ (k : Int) < ((N + 12 : Nat) : Int) := by omega
   have i0' : ¬ (k : Int) < (N : Int) + 12 := by omega
   go_wp2
   go_ret
   exact ⟨rfl, hb⟩
end Go.Proofs.YtkjgilffljlanaaGreatDoor
