/- What joints' Find and Apart answer, of anything. -/
import Derived.Test.YtfipmopmpacdaaaGreatDoorK1
import Derived.Deep.LoopGhost
import Derived.Deep.DeepCutAuto
import Derived.Deep.CutBlock
import Derived.Deep.RegionHeld3
import Derived.Deep.RegionWith
import Derived.Laws.RangeAny
import Derived.Maps.OwnSet
import Derived.DeepKeys4
import Derived.WideKeyPair
import Derived.Maps.OwnOps
import Derived.BigQuiet
import Derived.Deep.QuietTactic
namespace Go.Proofs.YtfipmopmpacdaaaGreatDoor
open Go.RowKit
def lttB (n : Nat) : Bool := decide (97 ≤ n) && decide (n ≤ 122)
def dgtB (n : Nat) : Bool := decide (48 ≤ n) && decide (n ≤ 57)
def chB (k n : Nat) : Bool := lttB n || (decide (k ≠ 0) && dgtB n)
def byN (s : ByteArray) (k : Nat) : Nat := if h : k < s.size then (s[k]'h).toNat else 0
def nmK (s : ByteArray) : Nat → Bool
 | 0 => true
 | k + 1 => nmK s k && chB k (byN s k)
def nmB (s : ByteArray) : Bool := decide (1 ≤ s.size) && decide (s.size ≤ 8) && nmK s s.size
theorem nmK_not {s : ByteArray} {j k : Nat} (hj : j < k) (h : chB j (byN s j) = false) : nmK s k = false := by
 induction k with
 | zero => omega
 | succ n ih =>
  unfold nmK
  by_cases e : j = n
  ·subst e
   rw [h]
   simp
  ·rw [ih (by omega)]
   rfl
def crB (x : Int) : Bool := decide (-1048576 ≤ x) && decide (x ≤ 1048576)
def crL (xs : List Int) : Bool := xs.all crB
theorem crL_snoc (xs : List Int) (x : Int) : crL (xs ++ [x]) = (crL xs && crB x) := by simp [crL]
abbrev Jn := ByteArray × Int × Int × Nat
def jV (j : Jn) : Value := .agg #[.string j.1, .int .i32 j.2.1, .int .i32 j.2.2.1, .int .u8 j.2.2.2]
def jz : Jn := (ByteArray.empty, 0, 0, 0)
def myB (j : Jn) : Bool := nmB j.1 && (crB j.2.1 && crB j.2.2.1) && decide (j.2.2.2 ≤ 7)
def JRow (w : World) (ao : Option Addr) (js : List Jn) : Prop := js.length = 0 ∨ ∃ b off, ao = some ⟨b, off, none⟩ ∧ ∀ k, k < js.length →
 w.cell? ⟨b, off + k * 4, none⟩ = some (.string (js.getD k jz).1) ∧ w.cell? ⟨b, off + k * 4 + 1, none⟩ = some (.int .i32 (js.getD k jz).2.1) ∧
 w.cell? ⟨b, off + k * 4 + 2, none⟩ = some (.int .i32 (js.getD k jz).2.2.1) ∧ w.cell? ⟨b, off + k * 4 + 3, none⟩ = some (.int .u8 (js.getD k jz).2.2.2)
theorem JRow.below {w w' : World} {ao : Option Addr} {js : List Jn} (h : JRow w ao js) (hb : Below w.heap.size w w') : JRow w' ao js := by
 rcases h with h | ⟨b, off, rfl, hc⟩
 ·exact Or.inl h
 ·refine Or.inr ⟨b, off, rfl, fun j hj => ?_⟩
  obtain ⟨c0, c1, c2, c3⟩ := hc j hj
  exact ⟨by rw [hb.cell (World.block_lt_of_cell? w _ c0)]; exact c0, by rw [hb.cell (World.block_lt_of_cell? w _ c1)]; exact c1, by rw [hb.cell (World.block_lt_of_cell? w _ c2)]; exact c2, by rw [hb.cell (World.block_lt_of_cell? w _ c3)]; exact c3⟩
theorem jgetD_at {js : List Jn} {k : Nat} (hk : k < js.length) : js.getD k jz = js[k] := by simp [List.getD, hk]
theorem jtake_at {js : List Jn} {k : Nat} (hk : k < js.length) : js.take (k + 1) = js.take k ++ [js.getD k jz] := by
 rw [List.take_succ_eq_append_getElem hk, jgetD_at hk]
def JW (j : Jn) : Prop := j.1.size ≤ maxLen ∧ -2147483648 ≤ j.2.1 ∧ j.2.1 ≤ 2147483647 ∧ -2147483648 ≤ j.2.2.1 ∧ j.2.2.1 ≤ 2147483647 ∧ j.2.2.2 < 256
def JWs (js : List Jn) : Prop := ∀ j, j ∈ js → JW j
theorem JWs.at {js : List Jn} (h : JWs js) {k : Nat} (hk : k < js.length) : JW (js.getD k jz) := by
 rw [jgetD_at hk]
 exact h _ (List.getElem_mem hk)
def I3Row (w : World) (ao : Option Addr) (xs : List Int) : Prop := xs.length = 0 ∨ ∃ b off, ao = some ⟨b, off, none⟩ ∧ ∀ k, k < xs.length → w.cell? ⟨b, off + k, none⟩ = some (.int .i32 (xs.getD k 0))
theorem igetD_at {xs : List Int} {k : Nat} (hk : k < xs.length) : xs.getD k 0 = xs[k] := by simp [List.getD, hk]
theorem itake_at {xs : List Int} {k : Nat} (hk : k < xs.length) : xs.take (k + 1) = xs.take k ++ [xs.getD k 0] := by
 rw [List.take_succ_eq_append_getElem hk, igetD_at hk]
theorem crL_not {xs : List Int} {k : Nat} (hk : k < xs.length) (h : crB (xs.getD k 0) = false) : crL xs = false := by
 rw [igetD_at hk] at h
 unfold crL
 rw [List.all_eq_false]
 exact ⟨_, List.getElem_mem hk, by rw [h]; simp⟩
set_option maxHeartbeats 1000000 in
theorem within_any (xs : List Int) (ao : Option Addr) (cap : Nat) (w : World) (hr : I3Row w ao xs) (hn : xs.length ≤ 1125899906842624) :
  Calls Tryz.prog 52 #[.slice ao xs.length cap] w fun e w' => e = .returned (.bool (crL xs)) ∧ w' = w := by
 obtain ⟨N, hN⟩ : ∃ N, xs.length = N := ⟨_, rfl⟩
 have HN : Hid (xs.length = N) := hN
 rw [hN] at hn ⊢
 clear hN
 go_enter Tryz.func52, Tryz.ntmps52
 go_wp2
 go_loopg [4, 7] N (fun g _ v wr => ∃ k : Nat, k ≤ N ∧ g = N - k ∧ v = .int .i64 k ∧ Hid (crL (xs.take k) = true) ∧ wr = w)
 case atStart => exact ⟨0, by omega, rfl, rfl, rfl, rfl⟩
 case round =>
  obtain ⟨k, hk, hg, rfl, hq, rfl⟩ := hrel
  have HG : Hid (gk = N - k) := hg
  clear hg
  by_cases hlt : k < N
  ·rcases hr with h | ⟨b, off, rfl, hc⟩
   ·exact absurd (HN.out ▸ h) (by omega)
   ·have hkl : k < xs.length := by rw [HN.out]; exact hlt
    have g1 := hc k hkl
    have ht := itake_at hkl
    have hnot := @crL_not xs k hkl
    obtain ⟨x, ex⟩ : ∃ x, xs.getD k 0 = x := ⟨_, rfl⟩
    rw [ex] at g1 ht hnot
    have HS : Hid (crL (xs.take (k + 1)) = crB x) := (show _ = _ by rw [ht, crL_snoc, hq.out]; rfl)
    have i1 : (k : Int) < (N : Int) := by omega
    have i2 : k < N := hlt
    have Hnot : Hid (crB x = false → crL xs = false) := hnot
    clear hc ht ex hq hkl hnot
    by_cases p : x < -1048576
    ·have Hn : Hid (crL xs = false) := Hnot.out (by unfold crB; simp; omega)
     clear Hnot HS
     go_wp2
     go_ret
     exact ⟨by rw [Hn.out]; rfl, rfl⟩
    ·by_cases q : 1048576 < x
     ·have Hn : Hid (crL xs = false) := Hnot.out (by unfold crB; simp; omega)
      clear Hnot HS
      go_wp2
      go_ret
      exact ⟨by rw [Hn.out]; rfl, rfl⟩
     ·have HS' : Hid (crL (xs.take (k + 1)) = true) := HS.out.trans (by unfold crB; simp; omega)
      clear Hnot HS
      go_wp2
      go_roundg (N - (k + 1))
      case measure => rw [HG.out]; omega
      case rel => exact ⟨k + 1, by omega, rfl, by go_num, HS', rfl⟩
  ·have e : xs.take k = xs := List.take_of_length_le (by have := HN.out; omega)
   have HS : Hid (crL xs = true) := (show _ = _ by rw [← e]; exact hq.out)
   have i1 : ¬ (k : Int) < (N : Int) := by omega
   clear hq e
   go_wp2
   go_ret
   exact ⟨by rw [HS.out]; rfl, rfl⟩
theorem rune_ch {s : ByteArray} {k : Nat} (hk : k < s.size) :
  (chB k (byN s k) = true → (Utf8.decode s k).2 = 1) ∧
  chB k (byN s k) = ((decide ((97 : Int) ≤ ((Utf8.decode s k).1 : Int)) && decide (((Utf8.decode s k).1 : Int) ≤ 122)) || (decide (k ≠ 0) && (decide ((48 : Int) ≤ ((Utf8.decode s k).1 : Int)) && decide (((Utf8.decode s k).1 : Int) ≤ 57)))) := by
 have e : byN s k = (s[k]'hk).toNat := by unfold byN; rw [dif_pos hk]
 rw [e]
 by_cases h : (s[k]'hk).toNat < 128
 ·rw [decode_ascii s k hk h]
  refine ⟨fun _ => rfl, ?_⟩
  generalize (s[k]'hk).toNat = n
  unfold chB lttB dgtB
  rw [Bool.eq_iff_iff]
  simp
  omega
 ·have g := decode_high s k hk (by omega)
  have f : chB k (s[k]'hk).toNat = false := by
   unfold chB lttB dgtB
   generalize (s[k]'hk).toNat = n at *
   rw [Bool.eq_false_iff]
   simp
   omega
  rw [f]
  generalize (Utf8.decode s k).1 = r at *
  refine ⟨(fun q => by cases q), ?_⟩
  symm
  rw [Bool.eq_false_iff]
  simp
  omega
set_option maxHeartbeats 1000000 in
theorem isname_any (s : ByteArray) (hs : s.size ≤ 9223372036854775807) (w : World) :
  Calls Tryz.prog 67 #[.string s] w fun e w' => e = .returned (.bool (nmB s)) ∧ Below w.heap.size w w' := by
 obtain ⟨N, hN⟩ : ∃ N, s.size = N := ⟨_, rfl⟩
 have HN : Hid (s.size = N) := hN
 rw [hN] at hs
 go_enter Tryz.func67, Tryz.ntmps67
 by_cases h1 : (N : Int) < 1
 ·have Hn : Hid (nmB s = false) := (show _ = _ by unfold nmB; rw [HN.out]; simp; omega)
  go_wp2
  go_ret
  exact ⟨by rw [Hn.out]; rfl, Below.refl _ _⟩
 by_cases h2 : (8 : Int) < (N : Int)
 ·have Hn : Hid (nmB s = false) := (show _ = _ by unfold nmB; rw [HN.out]; simp; omega)
  go_wp2
  go_ret
  exact ⟨by rw [Hn.out]; rfl, Below.refl _ _⟩
 have Hall : Hid (nmB s = nmK s N) := by
  show _ = _
  unfold nmB
  rw [HN.out]
  have a : 1 ≤ N := by omega
  have b : N ≤ 8 := by omega
  simp [a, b]
 go_wp2
 go_loopg [3, 4, 5, 6] N (fun g _ _ _ _ wr => ∃ k : Nat, k ≤ N ∧ g = N - k ∧ Hid (nmK s k = true) ∧ wr = w.iter s k)
 case atStart => exact ⟨0, by omega, rfl, rfl, rfl⟩
 case round =>
  obtain ⟨k, hk, hg, hq, rfl⟩ := hrel
  have HG : Hid (gk = N - k) := hg
  clear hg h1 h2 hN
  by_cases hp : k < s.size
  ·obtain ⟨c1, c2⟩ := rune_ch hp
   have hnx : ∀ ty, (Instr.next (.pointer (some ⟨w.heap.size, 0, none⟩)) true ty).run Tryz.prog (w.iter s k) = _ := fun ty => run_next_any w s k ty hp
   have hno := fun M hM => @nmK_not s k M hM
   have hkN : k < N := by rw [← HN.out]; exact hp
   have Hstep : Hid (nmK s (k + 1) = chB k (byN s k)) := (show _ = _ by unfold nmK; rw [hq.out]; rfl)
   generalize (Utf8.decode s k).2 = d at *
   obtain ⟨r, er⟩ : ∃ r : Int, ((Utf8.decode s k).1 : Int) = r := ⟨_, rfl⟩
   rw [er] at c2
   simp only [er] at hnx
   clear er hp
   have HB : Hid (chB k (byN s k) = false → nmB s = false) := fun q => by rw [Hall.out]; exact hno N hkN q
   generalize chB k (byN s k) = cb at *
   have HC1 : Hid (cb = true → d = 1) := c1
   have HC2 : Hid _ := c2
   clear c1 c2 hno hq
   have hgood : cb = true → d = 1 ∧ nmK s (k + 1) = true := fun q => ⟨HC1.out q, Hstep.out.trans q⟩
   have HGd : Hid _ := hgood
   clear hgood
   by_cases a1 : (97 : Int) ≤ r
   ·by_cases a2 : r ≤ (122 : Int)
    ·obtain ⟨rfl, HQ0⟩ := HGd.out (by rw [HC2.out]; simp [a1, a2])
     have HQ : Hid (nmK s (k + 1) = true) := HQ0
     clear HQ0
     have a3 : (48 : Int) ≤ r := by omega
     have a4 : ¬ r ≤ (57 : Int) := by omega
     go_wp2
     go_roundg (N - (k + 1))
     case measure => rw [HG.out]; omega
     case rel => exact ⟨k + 1, by omega, rfl, HQ, rfl⟩
    ·have Hn : Hid (nmB s = false) := HB.out (by rw [HC2.out]; rw [Bool.eq_false_iff]; simp; omega)
     have a3 : (48 : Int) ≤ r := by omega
     have a4 : ¬ r ≤ (57 : Int) := by omega
     by_cases z : k = 0
     all_goals
      (try subst z)
      go_wp2
      go_ret
      exact ⟨by rw [Hn.out]; rfl, (Below.refl _ _).alloc (Nat.le_refl _) _⟩
   ·by_cases z : ¬ k = 0
    ·by_cases a3 : (48 : Int) ≤ r
     ·by_cases a4 : r ≤ (57 : Int)
      ·obtain ⟨rfl, HQ0⟩ := HGd.out (by rw [HC2.out]; simp [a3, a4, z])
       have HQ : Hid (nmK s (k + 1) = true) := HQ0
       clear HQ0
       go_wp2
       go_roundg (N - (k + 1))
       case measure => rw [HG.out]; omega
       case rel => exact ⟨k + 1, by omega, rfl, HQ, rfl⟩
      ·have Hn : Hid (nmB s = false) := HB.out (by rw [HC2.out]; rw [Bool.eq_false_iff]; simp; omega)
       go_wp2
       go_ret
       exact ⟨by rw [Hn.out]; rfl, (Below.refl _ _).alloc (Nat.le_refl _) _⟩
     ·have Hn : Hid (nmB s = false) := HB.out (by rw [HC2.out]; rw [Bool.eq_false_iff]; simp; omega)
      go_wp2
      go_ret
      exact ⟨by rw [Hn.out]; rfl, (Below.refl _ _).alloc (Nat.le_refl _) _⟩
    ·have kn : k = 0 := by omega
     have Hn : Hid (nmB s = false) := HB.out (by rw [HC2.out, kn]; rw [Bool.eq_false_iff]; simp; omega)
     clear z
     subst kn
     by_cases a3 : (48 : Int) ≤ r
     ·by_cases a4 : r ≤ (57 : Int)
      all_goals
       go_wp2
       go_ret
       exact ⟨by rw [Hn.out]; rfl, (Below.refl _ _).alloc (Nat.le_refl _) _⟩
     ·go_wp2
      go_ret
      exact ⟨by rw [Hn.out]; rfl, (Below.refl _ _).alloc (Nat.le_refl _) _⟩
  ·have hnx : ∀ ty, (Instr.next (.pointer (some ⟨w.heap.size, 0, none⟩)) true ty).run Tryz.prog (w.iter s k) = _ := fun ty => run_next_end w s k ty hp
   have e : k = N := by have := HN.out; omega
   have HS : Hid (nmB s = true) := (show _ = _ by rw [Hall.out, ← e]; exact hq.out)
   clear hq e
   go_wp2
   go_ret
   exact ⟨by rw [HS.out]; rfl, (Below.refl _ _).alloc (Nat.le_refl _) _⟩
structure JBox (w : World) (b : Nat) (s x y f : Value) : Prop where
 c0 : w.cell? ⟨b, 0, none⟩ = some s
 c1 : w.cell? ⟨b, 1, none⟩ = some x
 c2 : w.cell? ⟨b, 2, none⟩ = some y
 c3 : w.cell? ⟨b, 3, none⟩ = some f
 f0 : w.frozen? ⟨b, 0, none⟩ = false
 f1 : w.frozen? ⟨b, 1, none⟩ = false
 f2 : w.frozen? ⟨b, 2, none⟩ = false
 f3 : w.frozen? ⟨b, 3, none⟩ = false
 lt : b < w.heap.size
theorem JBox.new (w : World) (s x y f : Value) (t : TypeId) : JBox (w.alloc (.cells #[s, x, y, f] t)) w.heap.size s x y f :=
 ⟨by go_simp, by go_simp, by go_simp, by go_simp, by go_simp, by go_simp, by go_simp, by go_simp, by simp⟩
theorem JBox.below {w w' : World} {b : Nat} {s x y f : Value} (h : JBox w b s x y f) (hb : Below w.heap.size w w') : JBox w' b s x y f :=
 ⟨(hb.cell (p := ⟨b, 0, none⟩) h.lt).trans h.c0, (hb.cell (p := ⟨b, 1, none⟩) h.lt).trans h.c1, (hb.cell (p := ⟨b, 2, none⟩) h.lt).trans h.c2, (hb.cell (p := ⟨b, 3, none⟩) h.lt).trans h.c3, (hb.frozen (p := ⟨b, 0, none⟩) h.lt).trans h.f0, (hb.frozen (p := ⟨b, 1, none⟩) h.lt).trans h.f1, (hb.frozen (p := ⟨b, 2, none⟩) h.lt).trans h.f2, (hb.frozen (p := ⟨b, 3, none⟩) h.lt).trans h.f3, Nat.lt_of_lt_of_le h.lt hb.size⟩
theorem JBox.alloc {w : World} {b : Nat} {s x y f : Value} (h : JBox w b s x y f) (o : Obj) : JBox (w.alloc o) b s x y f := h.below ((Below.refl _ _).alloc (Nat.le_refl _) o)
theorem i3row_two (w : World) (x y : Int) (t : TypeId) : I3Row (w.alloc (.cells #[.int .i32 x, .int .i32 y] t)) (some ⟨w.heap.size, 0, none⟩) [x, y] := by
 refine Or.inr ⟨_, 0, rfl, fun k hk => ?_⟩
 rcases (show k = 0 ∨ k = 1 by simp at hk; omega) with rfl | rfl
 ·simp [go_sem]
 ·simp [go_sem]
set_option maxHeartbeats 1000000 in
theorem maybe_any (j : Jn) (hj : JW j) (w : World) :
  Calls Tryz.prog 47 #[jV j] w fun e w' => e = .returned (.bool (myB j)) ∧ Below w.heap.size w w' := by
 obtain ⟨s, x, y, f⟩ := j
 have hs : s.size ≤ maxLen := hj.1
 clear hj
 unfold jV myB
 simp only
 have X0 := JBox.new w (.string s) (.int .i32 x) (.int .i32 y) (.int .u8 f) 40
 have hb0 : Below w.heap.size w (w.alloc (.cells #[.string s, .int .i32 x, .int .i32 y, .int .u8 f] 40)) := (Below.refl _ _).alloc (Nat.le_refl _) _
 have cn := fun w' => isname_any s (by unfold maxLen at hs; omega) w'
 go_enter Tryz.func47, Tryz.ntmps47
 go_upto_region 1 with fail
 generalize w.alloc (.cells #[.string s, .int .i32 x, .int .i32 y, .int .u8 f] 40) = W0 at *
 obtain ⟨x0, x1, x2, x3, _, _, _, _, _⟩ := id X0
 cases h0 : nmB s <;> rw [h0] at cn
 ·go_wp2_with (go_at_call 67; refine (cn _).mono ?_; rintro e w1 ⟨rfl, b1⟩)
  go_ret
  exact ⟨by rw [h0]; rfl, hb0.trans (b1.mono hb0.size)⟩
 have cw := fun w' => within_any [x, y] (some ⟨w'.heap.size, 0, none⟩) 2 (w'.alloc (.cells #[.int .i32 x, .int .i32 y] 21)) (i3row_two w' x y _) (by simp)
 have e1 : crL [x, y] = (crB x && crB y) := by simp [crL]
 rw [e1] at cw
 cases h1 : (crB x && crB y) <;> rw [h1] at cw
 ·go_wp2_with (first | (go_at_call 52; refine (cw _).mono ?_; rintro e w2 ⟨rfl, rfl⟩) | (go_at_call 67; refine (cn _).mono ?_; rintro e w1 ⟨rfl, b1⟩; have X1 := X0.below b1; obtain ⟨y0, y1, y2, y3, _, _, _, _, _⟩ := id X1))
  go_ret
  exact ⟨by rw [h0, h1]; rfl, (hb0.trans (b1.mono hb0.size)).alloc (Nat.le_trans hb0.size b1.size) _⟩
 by_cases h2 : f ≤ 7
 ·have i2 : (f : Int) ≤ 7 := by omega
  go_wp2_with (first | (go_at_call 52; refine (cw _).mono ?_; rintro e w2 ⟨rfl, rfl⟩; have X2 := X1.alloc (.cells #[.int .i32 x, .int .i32 y] 21); obtain ⟨z0, z1, z2, z3, _, _, _, _, _⟩ := id X2) | (go_at_call 67; refine (cn _).mono ?_; rintro e w1 ⟨rfl, b1⟩; have X1 := X0.below b1; obtain ⟨y0, y1, y2, y3, _, _, _, _, _⟩ := id X1))
  go_ret
  exact ⟨by rw [h0, h1]; simp [h2] <;> omega, (hb0.trans (b1.mono hb0.size)).alloc (Nat.le_trans hb0.size b1.size) _⟩
 ·have i2 : ¬ (f : Int) ≤ 7 := by omega
  go_wp2_with (first | (go_at_call 52; refine (cw _).mono ?_; rintro e w2 ⟨rfl, rfl⟩; have X2 := X1.alloc (.cells #[.int .i32 x, .int .i32 y] 21); obtain ⟨z0, z1, z2, z3, _, _, _, _, _⟩ := id X2) | (go_at_call 67; refine (cn _).mono ?_; rintro e w1 ⟨rfl, b1⟩; have X1 := X0.below b1; obtain ⟨y0, y1, y2, y3, _, _, _, _, _⟩ := id X1))
  go_ret
  exact ⟨by rw [h0, h1]; simp [h2] <;> omega, (hb0.trans (b1.mono hb0.size)).alloc (Nat.le_trans hb0.size b1.size) _⟩
open Go.RowKit Go.Maps
theorem Tryz.laidOut18 : laidOutB Tryz.prog = true := by kernel_rfl
theorem Tryz.row65 : (104 : TypeId) < Tryz.prog.types.size := of_decide_eq_true (by kernel_rfl)
theorem some_size {n m : Nat} (h : m < n) : ∃ q, n = q + 1 := ⟨n - 1, by omega⟩
theorem Tryz.size18 : ∃ m, Tryz.prog.types.size = m + 1 := some_size Tryz.row65
theorem Tryz.cells21 : Tryz.prog.cellsOf 21 = 1 := by kernel_rfl
theorem Tryz.cells65 : Tryz.prog.cellsOf 104 = 2 := by kernel_rfl
theorem Tryz.arr65 : WideMaps.ArrKey Tryz.prog 104 21 2 := ⟨Tryz.underlying104, by kernel_rfl, Tryz.cells21, Tryz.cells65⟩
theorem Tryz.wide65 : (match Tryz.prog.underlying 104 with | some (.array _ _) | some (.struct _) => true | _ => false) = true := by rw [Tryz.underlying104]
theorem Tryz.key65 : Tryz.prog.keyTypeAt 2 104 = true := by kernel_rfl
set_option maxRecDepth 100000 in
theorem lawP : Keyed Tryz.prog 104 := Keyed.of_law (deep_law_laid Tryz.laidOut18 (m := 2) (by decide) Tryz.row65 Tryz.key65 Tryz.wide65)
theorem lawN : Keyed Tryz.prog 9 := string_keyed Tryz.underlying9
theorem zero18 (w : World) : (zeroValue 3).run Tryz.prog w = .ok (.int .i64 0) w := by kernel_rfl
theorem keyP {x y : Int} (hx : -2147483648 ≤ x ∧ x ≤ 2147483647) (hy : -2147483648 ≤ y ∧ y ≤ 2147483647) : ∃ l, keyOf Tryz.prog 104 (.agg #[.int .i32 x, .int .i32 y]) = some l :=
 ⟨_, WideMaps.keyOf_pair Tryz.arr65 Tryz.underlying21 Tryz.size18 (by simp [Lit.wf, IntKind.min, IntKind.max, IntKind.signed, IntKind.bits]; omega) (by simp [Lit.wf, IntKind.min, IntKind.max, IntKind.signed, IntKind.bits]; omega)⟩
def hsN (js : List Jn) (s : ByteArray) : Bool := js.any fun j => decide (j.1 = s)
def hsP (js : List Jn) (x y : Int) : Bool := js.any fun j => decide (j.2.1 = x ∧ j.2.2.1 = y)
def fB (js : List Jn) (k : Nat) : Bool := hsN (js.take k) (js.getD k jz).1 || hsP (js.take k) (js.getD k jz).2.1 (js.getD k jz).2.2.1 || !myB (js.getD k jz)
def ckA (js : List Jn) : Int × Nat := if 16 < js.length then (3, 0) else match (List.range js.length).find? (fB js) with | some k => (280, k) | none => (0, 0)
theorem find_first {p : Nat → Bool} {n k : Nat} (hk : k < n) (h : ∀ i, i < k → p i = false) (hp : p k = true) : (List.range n).find? p = some k := by
 rw [List.find?_range_eq_some]
 exact ⟨hp, by simpa using hk, fun j hj => by simp [h j hj]⟩
theorem find_never {p : Nat → Bool} {n : Nat} (h : ∀ i, i < n → p i = false) : (List.range n).find? p = none := by
 rw [List.find?_eq_none]
 intro x hx
 rw [h x (by simpa using hx)]
 simp
theorem ck_long {js : List Jn} (h : 16 < js.length) : ckA js = (3, 0) := by unfold ckA; rw [if_pos h]
theorem ck_bad {js : List Jn} {k : Nat} (h : ¬ 16 < js.length) (hk : k < js.length) (ha : ∀ i, i < k → fB js i = false) (hp : fB js k = true) : ckA js = (280, k) := by
 unfold ckA; rw [if_neg h, find_first hk ha hp]
theorem ck_ok {js : List Jn} (h : ¬ 16 < js.length) (ha : ∀ i, i < js.length → fB js i = false) : ckA js = (0, 0) := by
 unfold ckA; rw [if_neg h, find_never ha]
structure CkS (w : World) (B C : Nat) (js : List Jn) : Prop where
 mN : ∃ D : DataW Unit, w.ownsMap Tryz.prog 9 (plainElem Tryz.prog 3) B js.length D ∧ ∀ s : ByteArray, Maps.has D (.string s.data.toList) = hsN js s
 mP : ∃ D : DataW Unit, w.ownsMap Tryz.prog 104 (plainElem Tryz.prog 3) C js.length D ∧ ∀ x y l, keyOf Tryz.prog 104 (.agg #[.int .i32 x, .int .i32 y]) = some l → Maps.has D l = hsP js x y
theorem cks_start (w : World) : CkS ((w.alloc (.map #[] 0)).alloc (.map #[] 0)) w.heap.size (w.heap.size + 1) [] := by
 refine ⟨⟨.map [], (World.ownsMap_made w _ _ _).alloc _, fun _ => rfl⟩, ⟨.map [], ?_, fun _ _ _ _ => rfl⟩⟩
 have := World.ownsMap_made (H := Unit) (w.alloc (.map #[] 0)) Tryz.prog 104 (plainElem Tryz.prog 3)
 simpa using this
theorem owns_below {w w' : World} {P : Program} {k : TypeId} {R : Value → Option (DataW Unit × List MemPlace)} {b n : Nat} {D : DataW Unit} (h : w.ownsMap P k R b n D) (hb : Below w.heap.size w w') : w'.ownsMap P k R b n D := by
 have l := h.lt
 obtain ⟨es, clock, hh, r⟩ := h
 exact ⟨es, clock, (hb.block _ l).trans hh, r⟩
theorem CkS.below2 {w w' : World} {B C : Nat} {js : List Jn} (h : CkS w B C js) (hb : Below w.heap.size w w') : CkS w' B C js := by
 obtain ⟨⟨D, h1, h2⟩, ⟨E, h3, h4⟩⟩ := h
 exact ⟨⟨D, owns_below h1 hb, h2⟩, ⟨E, owns_below h3 hb, h4⟩⟩
theorem hsN_snoc (js : List Jn) (j : Jn) (s : ByteArray) : hsN (js ++ [j]) s = (hsN js s || decide (j.1 = s)) := by simp [hsN]
theorem hsP_snoc (js : List Jn) (j : Jn) (x y : Int) : hsP (js ++ [j]) x y = (hsP js x y || decide (j.2.1 = x ∧ j.2.2.1 = y)) := by simp [hsP]
theorem put_names {D : DataW Unit} {js : List Jn} {j : Jn} (hD : IsMap D) (h : ∀ s : ByteArray, Maps.has D (.string s.data.toList) = hsN js s) (d : DataW Unit) (s : ByteArray) :
  Maps.has (D.put (.string j.1.data.toList) d) (.string s.data.toList) = hsN (js ++ [j]) s := by
 rw [hsN_snoc]
 by_cases e : j.1 = s
 ·subst e
  rw [has_put_same hD (show WideAt.IsKeyLit (.string j.1.data.toList) from trivial)]
  simp
 ·rw [has_put_other (fun q => e ?_), h]
  ·simp [e]
  ·have q1 : s.data.toList = j.1.data.toList := by simpa using q
   have q2 : s.data = j.1.data := Array.toList_inj.1 q1
   exact (ByteArray.ext q2).symm
theorem put_points {D : DataW Unit} {js : List Jn} {j : Jn} {k : Lit} (hD : IsMap D) (hk : keyOf Tryz.prog 104 (.agg #[.int .i32 j.2.1, .int .i32 j.2.2.1]) = some k)
  (h : ∀ x y l, keyOf Tryz.prog 104 (.agg #[.int .i32 x, .int .i32 y]) = some l → Maps.has D l = hsP js x y) (d : DataW Unit) (x y : Int) (l : Lit) (hl : keyOf Tryz.prog 104 (.agg #[.int .i32 x, .int .i32 y]) = some l) :
  Maps.has (D.put k d) l = hsP (js ++ [j]) x y := by
 rw [hsP_snoc]
 by_cases e : l = k
 ·have q := lawP.inj hl (e ▸ hk)
  rw [e, has_put_same hD (lawP.key hk)]
  simp at q
  simp [q]
 ·rw [has_put_other e, h x y l hl]
  have : ¬ (j.2.1 = x ∧ j.2.2.1 = y) := fun q => e (by
   rw [← q.1, ← q.2, hk] at hl
   simpa using hl.symm)
  simp [this]
set_option maxHeartbeats 2000000 in
theorem check_any (js : List Jn) (ao : Option Addr) (cap : Nat) (w : World) (hr : JRow w ao js) (hw : JWs js) (hn : js.length ≤ 1125899906842624) :
  Calls Tryz.prog 29 #[.slice ao js.length cap] w fun e w' => e = .returned (.tuple #[.int .i64 (ckA js).1, .int .i64 ((ckA js).2 : Nat)]) ∧ Below w.heap.size w w' := by
 have hmm := @run_makeMap Tryz.prog
 obtain ⟨N, hN⟩ : ∃ N, js.length = N := ⟨_, rfl⟩
 have HN : Hid (js.length = N) := hN
 rw [hN] at hn ⊢
 go_enter Tryz.func29, Tryz.ntmps29
 by_cases h1 : 16 < N
 ·have i1 : (16 : Int) < (N : Int) := by omega
  have Hc : Hid (ckA js = (3, 0)) := ck_long (by rw [hN]; exact h1)
  go_wp2
  go_ret2
  exact ⟨by rw [Hc.out]; rfl, Below.refl _ _⟩
 have i1 : ¬ (16 : Int) < (N : Int) := by omega
 have HL : Hid (¬ 16 < js.length) := (by rw [hN]; exact h1 : ¬ 16 < js.length)
 have cs := cks_start w
 have hb0 : Below w.heap.size w ((w.alloc (.map #[] 0)).alloc (.map #[] 0)) := ((Below.refl _ _).alloc (Nat.le_refl _) _).alloc (by simp) _
 go_wp2
 clear hmm h1 i1 hN
 go_loopg [20] N (fun g v wr => ∃ k : Nat, k ≤ N ∧ g = N - k ∧ v = .int .i64 k ∧ Hid (∀ i, i < k → fB js i = false) ∧ CkS wr w.heap.size (w.heap.size + 1) (js.take k) ∧ Below w.heap.size w wr ∧ w.heap.size + 2 ≤ wr.heap.size)
 case atStart => exact ⟨0, by omega, rfl, rfl, (fun i hi => absurd hi (by omega)), cs, hb0, by simp⟩
 case round =>
  obtain ⟨k, hk, hg, rfl, hq, hs, hbr, hz⟩ := hrel
  have HG : Hid (gk = N - k) := hg
  clear hg cs hb0
  by_cases hlt : k < N
  ·rcases hr.below hbr with h | ⟨b, off, rfl, hc⟩
   ·exact absurd (HN.out ▸ h) (by omega)
   ·have hkl : k < js.length := by rw [HN.out]; exact hlt
    obtain ⟨g0, g1, g2, g3⟩ := hc k hkl
    have hjw := hw.at hkl
    have hbl := World.block_lt_of_cell? wr _ g0
    have hbl : b < wr.heap.size := hbl
    have bz := hbr.size
    obtain ⟨⟨s, x, y, f⟩, ex⟩ : ∃ j, js.getD k jz = j := ⟨_, rfl⟩
    rw [ex] at g0 g1 g2 g3 hjw
    simp only at g0 g1 g2 g3
    clear hc hr
    have i2 : (k : Int) < (N : Int) := by omega
    have n1 : b ≠ wr.heap.size := by omega
    have n2 : wr.heap.size ≠ b := by omega
    have X7 := (JBox.new wr (.string s) (.int .i32 x) (.int .i32 y) (.int .u8 f) 40).alloc (.cells #[.int .i32 x, .int .i32 y] 104)
    have p0 : ((wr.alloc (.cells #[.string s, .int .i32 x, .int .i32 y, .int .u8 f] 40)).alloc (.cells #[.int .i32 x, .int .i32 y] 104)).cell? ⟨wr.heap.size + 1, 0, none⟩ = some (.int .i32 x) := by simp [go_sem]
    have p1 : ((wr.alloc (.cells #[.string s, .int .i32 x, .int .i32 y, .int .u8 f] 40)).alloc (.cells #[.int .i32 x, .int .i32 y] 104)).cell? ⟨wr.heap.size + 1, 1, none⟩ = some (.int .i32 y) := by simp [go_sem]
    have st : Below wr.heap.size wr ((wr.alloc (.cells #[.string s, .int .i32 x, .int .i32 y, .int .u8 f] 40)).alloc (.cells #[.int .i32 x, .int .i32 y] 104)) := ((Below.refl _ _).alloc (Nat.le_refl _) _).alloc (by simp) _
    go_upto_region 8 with fail
    generalize (wr.alloc (.cells #[.string s, .int .i32 x, .int .i32 y, .int .u8 f] 40)).alloc (.cells #[.int .i32 x, .int .i32 y] 104) = W at *
    replace hs := hs.below2 st
    replace hbr := hbr.trans (st.mono bz)
    have hz2 : wr.heap.size ≤ W.heap.size := st.size
    obtain ⟨⟨D, hD, hDh⟩, ⟨E, hE, hEh⟩⟩ := hs
    have hkN := WideMaps.keyOf_string_mk Tryz.underlying9 hjw.1
    obtain ⟨l, hkP⟩ := keyP (x := x) (y := y) ⟨hjw.2.1, hjw.2.2.1⟩ ⟨hjw.2.2.2.1, hjw.2.2.2.2.1⟩
    have hDs := hDh s
    have hEs := hEh x y l hkP
    have HF : Hid (fB js k = (hsN (js.take k) s || hsP (js.take k) x y || !myB (s, x, y, f))) := (show _ = _ by unfold fB; rw [ex])
    have Htk : Hid (js.take (k + 1) = js.take k ++ [(s, x, y, f)]) := (show _ = _ by rw [jtake_at hkl, ex])
    have cm := fun w' => maybe_any (s, x, y, f) hjw w'
    unfold jV at cm
    simp only at cm
    obtain ⟨x0, x1, x2, x3, _, _, _, _, x4⟩ := id X7
    generalize hsN (js.take k) s = hn1 at *
    generalize hsP (js.take k) x y = hp1 at *
    generalize myB (s, x, y, f) = my at *
    go_upto_region 9 with (at_lookup; refine wpList_lookup_own_ok_int _ rfl _ _ 80 rfl 9 3 .i64 lawN Tryz.underlying80 Tryz.underlying3 (zero18 _) w.heap.size _ _ rfl hD _ _ rfl hkN ?_; rw [hDs]; intro c1 _ _)
    go_upto_region 10 with (at_lookup; refine wpList_lookup_own_ok_int _ rfl _ _ 103 rfl 104 3 .i64 lawP Tryz.underlying103 Tryz.underlying3 (zero18 _) (w.heap.size + 1) _ _ rfl hE _ _ rfl hkP ?_; rw [hEs]; intro c2 _ _)
    have HB : Hid (fB js k = true → ckA js = (280, k)) := fun q => ck_bad HL.out hkl hq.out q
    cases hn1
    ·cases hp1
     ·cases my
      ·have Hc : Hid (ckA js = (280, k)) := HB.out (by rw [HF.out]; rfl)
       go_wp2_with (go_at_call 47; refine (cm _).mono ?_; rintro e w1 ⟨rfl, b1⟩)
       go_ret2
       exact ⟨by rw [Hc.out]; rfl, hbr.trans (b1.mono hbr.size)⟩
      ·have HQ : Hid (∀ i, i < k + 1 → fB js i = false) := fun i hi => by
        rcases (show i < k ∨ i = k by omega) with h | rfl
        ·exact hq.out i h
        ·rw [HF.out]; rfl
       have hlen : (js.take k).length = k := by rw [List.length_take]; omega
       go_upto_region 12 with (go_at_call 47; refine (cm _).mono ?_; rintro e w1 ⟨rfl, b1⟩)
       have c7 : w1.cell? ⟨wr.heap.size, 0, none⟩ = some (.string s) := (b1.cell (p := ⟨wr.heap.size, 0, none⟩) x4).trans x0
       have q0 : w1.cell? ⟨wr.heap.size + 1, 0, none⟩ = some (.int .i32 x) := (b1.cell (p := ⟨wr.heap.size + 1, 0, none⟩) (World.block_lt_of_cell? W _ p0)).trans p0
       have q1 : w1.cell? ⟨wr.heap.size + 1, 1, none⟩ = some (.int .i32 y) := (b1.cell (p := ⟨wr.heap.size + 1, 1, none⟩) (World.block_lt_of_cell? W _ p1)).trans p1
       have IMD := hD.isMap
       have IME := hE.isMap
       have hD1 := owns_below hD b1
       have hE1 := owns_below hE b1
       have hb1 := hbr.trans (b1.mono hbr.size)
       have hz1 : wr.heap.size ≤ w1.heap.size := Nat.le_trans hz2 b1.size
       rw [hlen] at hD1 hE1
       clear hD hE p0 p1 X7 x0 x1 x2 x3 x4 cm b1 HB HF hDs hEs
       go_upto_region 13 with (at_mapUpdate; refine wpList_mapUpdate_own _ rfl _ _ _ 80 rfl 9 3 lawN Tryz.underlying80 _ w.heap.size k _ rfl hD1 (by unfold maxLen; omega) _ _ _ rfl rfl hkN _ [] (plainElem_int Tryz.underlying3 (WalkArith.wf_i64 (by omega))) ?_; intro w2 hD2 g2)
       have hE2 := hE1.kept g2 (by simp)
       have r0 := g2.cell q0 (by simp; omega)
       have r1 := g2.cell q1 (by simp; omega)
       have hb2 := hb1.grown g2 hb1.size (fun j hj => by cases hj; exact Nat.le_refl _)
       have hz3 : wr.heap.size ≤ w2.heap.size := Nat.le_trans hz1 g2.size
       clear q0 q1 c7 hE1 hD1 hb1
       go_upto_region 14 with (at_mapUpdate; refine wpList_mapUpdate_own _ rfl _ _ _ 103 rfl 104 3 lawP Tryz.underlying103 _ (w.heap.size + 1) k _ rfl hE2 (by unfold maxLen; omega) _ _ _ rfl rfl hkP _ [] (plainElem_int Tryz.underlying3 (WalkArith.wf_i64 (by omega))) ?_; intro w3 hE3 g3)
       have hD3 := hD2.kept g3 (by simp)
       have hb3 := hb2.grown g3 hb2.size (fun j hj => by cases hj; exact Nat.le_succ _)
       have HS3 : CkS w3 w.heap.size (w.heap.size + 1) (js.take (k + 1)) := by
        rw [Htk.out]
        have q : (js.take k ++ [(s, x, y, f)]).length = k + 1 := by rw [List.length_append, hlen]; rfl
        have hD4 := hD3
        have hE4 := hE3
        rw [← q] at hD4 hE4
        exact ⟨⟨_, hD4, fun s' => put_names (j := (s, x, y, f)) IMD hDh _ s'⟩, ⟨_, hE4, fun x' y' l' hl' => put_points (j := (s, x, y, f)) IME hkP hEh _ x' y' l' hl'⟩⟩
       clear hDh hEh hD2 hD3 hE2 hE3
       go_wp2
       go_roundg (N - (k + 1))
       case measure => rw [HG.out]; omega
       case rel => exact ⟨k + 1, by omega, rfl, by go_num, HQ, HS3, hb3, by have := g3.size; omega⟩
     ·have Hc : Hid (ckA js = (280, k)) := HB.out (by rw [HF.out]; rfl)
      go_wp2
      go_ret2
      exact ⟨by rw [Hc.out]; rfl, hbr⟩
    ·have Hc : Hid (ckA js = (280, k)) := HB.out (by rw [HF.out]; rfl)
     go_wp2
     go_ret2
     exact ⟨by rw [Hc.out]; rfl, hbr⟩
  ·have e : k = js.length := by have := HN.out; omega
   have Hc : Hid (ckA js = (0, 0)) := ck_ok HL.out (by rw [← e]; exact hq.out)
   have i2 : ¬ (k : Int) < (N : Int) := by omega
   clear e
   go_wp2
   go_ret2
   exact ⟨by rw [Hc.out]; rfl, hbr⟩
def aptB (a b : Jn) : Bool := crB a.2.1 && crB a.2.2.1 && crB b.2.1 && crB b.2.2.1
def aptA (a b : Jn) : Int × Int × Int := if aptB a b then (b.2.1 - a.2.1, b.2.2.1 - a.2.2.1, (b.2.1 - a.2.1) * (b.2.1 - a.2.1) + (b.2.2.1 - a.2.2.1) * (b.2.2.1 - a.2.2.1)) else (0, 0, 0)
theorem i3row_four (w : World) (x y p q : Int) (t : TypeId) : I3Row (w.alloc (.cells #[.int .i32 x, .int .i32 y, .int .i32 p, .int .i32 q] t)) (some ⟨w.heap.size, 0, none⟩) [x, y, p, q] := by
 refine Or.inr ⟨_, 0, rfl, fun k hk => ?_⟩
 rcases (show k = 0 ∨ k = 1 ∨ k = 2 ∨ k = 3 by simp at hk; omega) with rfl | rfl | rfl | rfl
 all_goals simp [go_sem]
theorem wrap_q {z : Int} (h0 : -9223372036854775808 ≤ z) (h : z < 9223372036854775808) : IntKind.i64.wrap z = z := by rw [IntKind.wrap_i64]; omega
theorem kcr_le {x : Int} (h : crB x = true) : -1048576 ≤ x ∧ x ≤ 1048576 := by
 unfold crB at h
 simpa using h
theorem sq_le {x : Int} (h : -2097152 ≤ x ∧ x ≤ 2097152) : 0 ≤ x * x ∧ x * x ≤ 4398046511104 := by
 have h1 : x * x = ((x.natAbs * x.natAbs : Nat) : Int) := by rw [Int.natCast_mul, Int.natAbs_mul_self']
 have h2 : x.natAbs * x.natAbs ≤ 2097152 * 2097152 := Nat.mul_le_mul (by omega) (by omega)
 omega
set_option maxHeartbeats 1000000 in
theorem apart_any (a b : Jn) (w : World) :
  Calls Tryz.prog 31 #[jV a, jV b] w fun e w' => e = .returned (.tuple #[.int .i64 (aptA a b).1, .int .i64 (aptA a b).2.1, .int .i64 (aptA a b).2.2]) ∧ Below w.heap.size w w' := by
 obtain ⟨s, x, y, f⟩ := a
 obtain ⟨t, p, q, g⟩ := b
 unfold jV
 simp only
 have X0 := (JBox.new w (.string s) (.int .i32 x) (.int .i32 y) (.int .u8 f) 40).alloc (.cells #[.string t, .int .i32 p, .int .i32 q, .int .u8 g] 40)
 have X1 := JBox.new (w.alloc (.cells #[.string s, .int .i32 x, .int .i32 y, .int .u8 f] 40)) (.string t) (.int .i32 p) (.int .i32 q) (.int .u8 g) 40
 have hs1 : (w.alloc (.cells #[.string s, .int .i32 x, .int .i32 y, .int .u8 f] 40)).heap.size = w.heap.size + 1 := by simp
 rw [hs1] at X1
 have hb0 : Below w.heap.size w ((w.alloc (.cells #[.string s, .int .i32 x, .int .i32 y, .int .u8 f] 40)).alloc (.cells #[.string t, .int .i32 p, .int .i32 q, .int .u8 g] 40)) := ((Below.refl _ _).alloc (Nat.le_refl _) _).alloc (by simp) _
 go_enter Tryz.func31, Tryz.ntmps31
 go_upto_region 1 with fail
 generalize (w.alloc (.cells #[.string s, .int .i32 x, .int .i32 y, .int .u8 f] 40)).alloc (.cells #[.string t, .int .i32 p, .int .i32 q, .int .u8 g] 40) = W0 at *
 have cw := within_any [x, y, p, q] (some ⟨W0.heap.size, 0, none⟩) 4 (W0.alloc (.cells #[.int .i32 x, .int .i32 y, .int .i32 p, .int .i32 q] 21)) (i3row_four W0 x y p q _) (by simp)
 have e1 : crL [x, y, p, q] = (crB x && crB y && crB p && crB q) := by simp [crL, Bool.and_assoc]
 rw [e1] at cw
 have X2 := X0.alloc (.cells #[.int .i32 x, .int .i32 y, .int .i32 p, .int .i32 q] 21)
 have X3 := X1.alloc (.cells #[.int .i32 x, .int .i32 y, .int .i32 p, .int .i32 q] 21)
 have hb1 := hb0.alloc hb0.size (.cells #[.int .i32 x, .int .i32 y, .int .i32 p, .int .i32 q] 21)
 obtain ⟨x0, x1, x2, x3, _, _, _, _, _⟩ := id X0
 obtain ⟨y0, y1, y2, y3, _, _, _, _, _⟩ := id X1
 clear hs1
 cases h : (crB x && crB y && crB p && crB q) <;> rw [h] at cw
 ·have HA : Hid (aptA (s, x, y, f) (t, p, q, g) = (0, 0, 0)) := (show _ = _ by unfold aptA aptB; rw [h]; rfl)
  clear h
  go_wp2_with (go_at_call 52; refine cw.mono ?_; rintro e w1 ⟨rfl, rfl⟩)
  go_ret3
  exact ⟨by rw [HA.out]; rfl, hb1⟩
 ·have HA : Hid (aptA (s, x, y, f) (t, p, q, g) = (p - x, q - y, (p - x) * (p - x) + (q - y) * (q - y))) := (show _ = _ by unfold aptA aptB; rw [h]; rfl)
  obtain ⟨⟨⟨a1, a2⟩, a3⟩, a4⟩ : ((crB x = true ∧ crB y = true) ∧ crB p = true) ∧ crB q = true := by simpa using h
  have a1 := kcr_le a1
  have a2 := kcr_le a2
  have a3 := kcr_le a3
  have a4 := kcr_le a4
  clear h e1
  go_upto_region 3 with (go_at_call 52; refine cw.mono ?_; rintro e w1 ⟨rfl, rfl⟩)
  clear cw x0 x1 x2 x3 y0 y1 y2 y3
  generalize W0.alloc (.cells #[.int .i32 x, .int .i32 y, .int .i32 p, .int .i32 q] 21) = W1 at *
  obtain ⟨x0, x1, x2, x3, _, _, _, _, _⟩ := id X2
  obtain ⟨y0, y1, y2, y3, _, _, _, _, _⟩ := id X3
  have w1 : IntKind.i64.wrap p = p := wrap_q (by omega) (by omega)
  have w2 : IntKind.i64.wrap x = x := wrap_q (by omega) (by omega)
  have w3 : IntKind.i64.wrap q = q := wrap_q (by omega) (by omega)
  have w4 : IntKind.i64.wrap y = y := wrap_q (by omega) (by omega)
  go_quiet (fail)
  go_upto_region 4 with fail
  have d1 : -2097152 ≤ p - x ∧ p - x ≤ 2097152 := by omega
  have d2 : -2097152 ≤ q - y ∧ q - y ≤ 2097152 := by omega
  have s1 := sq_le d1
  have s2 := sq_le d2
  have w5 : IntKind.i64.wrap ((p - x) * (p - x)) = (p - x) * (p - x) := wrap_q (by omega) (by omega)
  have w6 : IntKind.i64.wrap ((q - y) * (q - y)) = (q - y) * (q - y) := wrap_q (by omega) (by omega)
  have w7 : IntKind.i64.wrap ((p - x) * (p - x) + (q - y) * (q - y)) = (p - x) * (p - x) + (q - y) * (q - y) := wrap_q (by omega) (by omega)
  go_wp2
  go_ret3
  exact ⟨by rw [HA.out]; rfl, below_drewN hb1 _⟩
end Go.Proofs.YtfipmopmpacdaaaGreatDoor
