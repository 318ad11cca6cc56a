/- bars.Check of any plan. -/
import Derived.Test.YtfipmopmpacdaaaGreatDoorJA
import Derived.Test.YtfipmopmpacdaaaGreatDoorZj
namespace Go.Proofs.YtfipmopmpacdaaaGreatDoor
open Go.RowKit
structure Mb where
 nm : ByteArray
 kd : Nat
 a : Int
 b : Int
 ha : Bool
 hb : Bool
 e : Nat
 ar : Nat
 i : Nat
def mz : Mb := ⟨ByteArray.empty, 0, 0, 0, false, false, 0, 0, 0⟩
def mV (m : Mb) : Value := .agg #[.string m.nm, .int .u8 m.kd, .int .i64 m.a, .int .i64 m.b, .bool m.ha, .bool m.hb, .float .f64 m.e, .float .f64 m.ar, .float .f64 m.i]
def nbB (x : Nat) : Bool := leF 4336966441157787648 x && leF x 4877398396442247168
def ldB (a b : Int) (n : Nat) : Bool := decide (0 ≤ a) && decide (0 ≤ b) && decide (a < n) && decide (b < n) && decide (a ≠ b)
def kdB (m : Mb) : Bool := if m.kd = 1 then !m.ha && !m.hb && decide (m.i = 0) else if m.kd = 2 then nbB m.i else false
def mmB (n : Nat) (m : Mb) : Bool := nmB m.nm && ldB m.a m.b n && (nbB m.e && nbB m.ar) && kdB m
def hsM (ms : List Mb) (s : ByteArray) : Bool := ms.any fun m => decide (m.nm = s)
theorem hsM_snoc (ms : List Mb) (m : Mb) (s : ByteArray) : hsM (ms ++ [m]) s = (hsM ms s || decide (m.nm = s)) := by simp [hsM]
def fM (n : Nat) (ms : List Mb) (k : Nat) : Bool := hsM (ms.take k) (ms.getD k mz).nm || !mmB n (ms.getD k mz)
def cmA (n : Nat) (ms : List Mb) : Int × Nat := if 48 < ms.length then (3, 0) else match (List.range ms.length).find? (fM n ms) with | some k => (290, k) | none => (0, 0)
def cpA (js : List Jn) (ms : List Mb) : Int × Nat := if (ckA js).1 = 0 then cmA js.length ms else ckA js
theorem cm_long {n : Nat} {ms : List Mb} (h : 48 < ms.length) : cmA n ms = (3, 0) := by unfold cmA; rw [if_pos h]
theorem cm_bad {n : Nat} {ms : List Mb} {k : Nat} (h : ¬ 48 < ms.length) (hk : k < ms.length) (ha : ∀ i, i < k → fM n ms i = false) (hp : fM n ms k = true) : cmA n ms = (290, k) := by
 unfold cmA; rw [if_neg h, find_first hk ha hp]
theorem cm_ok {n : Nat} {ms : List Mb} (h : ¬ 48 < ms.length) (ha : ∀ i, i < ms.length → fM n ms i = false) : cmA n ms = (0, 0) := by
 unfold cmA; rw [if_neg h, find_never ha]
structure MAt (w : World) (b off : Nat) (m : Mb) : Prop where
 c0 : w.cell? ⟨b, off, none⟩ = some (.string m.nm)
 c1 : w.cell? ⟨b, off + 1, none⟩ = some (.int .u8 m.kd)
 c2 : w.cell? ⟨b, off + 2, none⟩ = some (.int .i64 m.a)
 c3 : w.cell? ⟨b, off + 3, none⟩ = some (.int .i64 m.b)
 c4 : w.cell? ⟨b, off + 4, none⟩ = some (.bool m.ha)
 c5 : w.cell? ⟨b, off + 5, none⟩ = some (.bool m.hb)
 c6 : w.cell? ⟨b, off + 6, none⟩ = some (.float .f64 m.e)
 c7 : w.cell? ⟨b, off + 7, none⟩ = some (.float .f64 m.ar)
 c8 : w.cell? ⟨b, off + 8, none⟩ = some (.float .f64 m.i)
theorem MAt.lt {w : World} {b off : Nat} {m : Mb} (h : MAt w b off m) : b < w.heap.size := World.block_lt_of_cell? w _ h.c0
theorem MAt.below {w w' : World} {b off : Nat} {m : Mb} (h : MAt w b off m) (hb : Below w.heap.size w w') : MAt w' b off m := by
 have l := h.lt
 exact ⟨by rw [hb.cell l]; exact h.c0, by rw [hb.cell l]; exact h.c1, by rw [hb.cell l]; exact h.c2, by rw [hb.cell l]; exact h.c3, by rw [hb.cell l]; exact h.c4, by rw [hb.cell l]; exact h.c5, by rw [hb.cell l]; exact h.c6, by rw [hb.cell l]; exact h.c7, by rw [hb.cell l]; exact h.c8⟩
def MRow (w : World) (ao : Option Addr) (ms : List Mb) : Prop := ms.length = 0 ∨ ∃ b off, ao = some ⟨b, off, none⟩ ∧ ∀ k, k < ms.length → MAt w b (off + k * 9) (ms.getD k mz)
theorem MRow.below {w w' : World} {ao : Option Addr} {ms : List Mb} (h : MRow w ao ms) (hb : Below w.heap.size w w') : MRow w' ao ms := by
 rcases h with h | ⟨b, off, rfl, hc⟩
 ·exact Or.inl h
 ·exact Or.inr ⟨b, off, rfl, fun j hj => (hc j hj).below hb⟩
theorem mgetD_at {ms : List Mb} {k : Nat} (hk : k < ms.length) : ms.getD k mz = ms[k] := by simp [List.getD, hk]
theorem mtake_at {ms : List Mb} {k : Nat} (hk : k < ms.length) : ms.take (k + 1) = ms.take k ++ [ms.getD k mz] := by
 rw [List.take_succ_eq_append_getElem hk, mgetD_at hk]
structure MW (m : Mb) : Prop where
 s : m.nm.size ≤ maxLen
 k : m.kd < 256
 a0 : -9223372036854775808 ≤ m.a
 a1 : m.a ≤ 9223372036854775807
 b0 : -9223372036854775808 ≤ m.b
 b1 : m.b ≤ 9223372036854775807
 e : m.e < 18446744073709551616
 ar : m.ar < 18446744073709551616
 i : m.i < 18446744073709551616
def MWs (ms : List Mb) : Prop := ∀ m, m ∈ ms → MW m
theorem MWs.at {ms : List Mb} (h : MWs ms) {k : Nat} (hk : k < ms.length) : MW (ms.getD k mz) := by
 rw [mgetD_at hk]
 exact h _ (List.getElem_mem hk)
structure MBox (w : World) (b : Nat) (m : Mb) : Prop where
 at0 : MAt w b 0 m
 f0 : w.frozen? ⟨b, 0, none⟩ = false
 f1 : w.frozen? ⟨b, 1, none⟩ = false
 f2 : w.frozen? ⟨b, 2, none⟩ = false
 f3 : w.frozen? ⟨b, 3, none⟩ = false
 f4 : w.frozen? ⟨b, 4, none⟩ = false
 f5 : w.frozen? ⟨b, 5, none⟩ = false
 f6 : w.frozen? ⟨b, 6, none⟩ = false
 f7 : w.frozen? ⟨b, 7, none⟩ = false
 f8 : w.frozen? ⟨b, 8, none⟩ = false
 lt : b < w.heap.size
abbrev mO (m : Mb) (t : TypeId) : Obj := .cells #[.string m.nm, .int .u8 m.kd, .int .i64 m.a, .int .i64 m.b, .bool m.ha, .bool m.hb, .float .f64 m.e, .float .f64 m.ar, .float .f64 m.i] t
theorem MBox.new (w : World) (m : Mb) (t : TypeId) : MBox (w.alloc (mO m t)) w.heap.size m :=
 ⟨⟨by go_simp, by go_simp, by go_simp, by go_simp, by go_simp, by go_simp, by go_simp, by go_simp, by go_simp⟩, by go_simp, by go_simp, by go_simp, by go_simp, by go_simp, by go_simp, by go_simp, by go_simp, by go_simp, by simp⟩
theorem MBox.below {w w' : World} {b : Nat} {m : Mb} (h : MBox w b m) (hb : Below w.heap.size w w') : MBox w' b m :=
 ⟨h.at0.below hb, (hb.frozen (p := ⟨b, 0, none⟩) h.lt).trans h.f0, (hb.frozen (p := ⟨b, 1, none⟩) h.lt).trans h.f1, (hb.frozen (p := ⟨b, 2, none⟩) h.lt).trans h.f2, (hb.frozen (p := ⟨b, 3, none⟩) h.lt).trans h.f3, (hb.frozen (p := ⟨b, 4, none⟩) h.lt).trans h.f4, (hb.frozen (p := ⟨b, 5, none⟩) h.lt).trans h.f5, (hb.frozen (p := ⟨b, 6, none⟩) h.lt).trans h.f6, (hb.frozen (p := ⟨b, 7, none⟩) h.lt).trans h.f7, (hb.frozen (p := ⟨b, 8, none⟩) h.lt).trans h.f8, Nat.lt_of_lt_of_le h.lt hb.size⟩
theorem MBox.alloc {w : World} {b : Nat} {m : Mb} (h : MBox w b m) (o : Obj) : MBox (w.alloc o) b m := h.below ((Below.refl _ _).alloc (Nat.le_refl _) o)
def FsRow (w : World) (ao : Option Addr) (xs : List Nat) : Prop := xs.length = 0 ∨ ∃ b off, ao = some ⟨b, off, none⟩ ∧ ∀ k, k < xs.length → w.cell? ⟨b, off + k, none⟩ = some (.float .f64 (xs.getD k 0))
def nbL (xs : List Nat) : Bool := xs.all nbB
theorem nbL_snoc (xs : List Nat) (x : Nat) : nbL (xs ++ [x]) = (nbL xs && nbB x) := by simp [nbL]
theorem ngetD_at {xs : List Nat} {k : Nat} (hk : k < xs.length) : xs.getD k 0 = xs[k] := by simp [List.getD, hk]
theorem ntake_at {xs : List Nat} {k : Nat} (hk : k < xs.length) : xs.take (k + 1) = xs.take k ++ [xs.getD k 0] := by
 rw [List.take_succ_eq_append_getElem hk, ngetD_at hk]
theorem nbL_not {xs : List Nat} {k : Nat} (hk : k < xs.length) (h : nbB (xs.getD k 0) = false) : nbL xs = false := by
 rw [ngetD_at hk] at h
 unfold nbL
 rw [List.all_eq_false]
 exact ⟨_, List.getElem_mem hk, by rw [h]; simp⟩
theorem fsrow_one (w : World) (x : Nat) (t : TypeId) : FsRow (w.alloc (.cells #[.float .f64 x] t)) (some ⟨w.heap.size, 0, none⟩) [x] := by
 refine Or.inr ⟨_, 0, rfl, fun k hk => ?_⟩
 obtain rfl : k = 0 := by simp at hk; omega
 simp [go_sem]
theorem fsrow_two (w : World) (x y : Nat) (t : TypeId) : FsRow (w.alloc (.cells #[.float .f64 x, .float .f64 y] t)) (some ⟨w.heap.size, 0, none⟩) [x, y] := by
 refine Or.inr ⟨_, 0, rfl, fun k hk => ?_⟩
 rcases (show k = 0 ∨ k = 1 by simp at hk; omega) with rfl | rfl
 ·simp [go_sem]
 ·simp [go_sem]
theorem jrow_one (w : World) (a : Jn) (t : TypeId) : JRow (w.alloc (.cells #[.string a.1, .int .i32 a.2.1, .int .i32 a.2.2.1, .int .u8 a.2.2.2] t)) (some ⟨w.heap.size, 0, none⟩) [a] := by
 refine Or.inr ⟨_, 0, rfl, fun k hk => ?_⟩
 obtain rfl : k = 0 := by simp at hk; omega
 simp [go_sem]
theorem ck_name (s : ByteArray) : ckA [(s, 0, 0, 0)] = (if nmB s then (0, 0) else (280, 0)) := by
  have e : fB [(s, 0, 0, 0)] 0 = !nmB s := by
    unfold fB myB
    simp [hsN, hsP, List.getD, crB]
  cases h : nmB s
  · rw [h] at e
    rw [ck_bad (k := 0) (by simp) (by simp) (fun i hi => by omega) e]
    rfl
  · rw [h] at e
    rw [ck_ok (by simp) (fun i hi => by obtain rfl : i = 0 := by simp at hi; omega
                                        exact e)]
    rfl
set_option maxHeartbeats 1000000 in
theorem bwithin_any (xs : List Nat) (ao : Option Addr) (cap : Nat) (w : World) (hr : FsRow w ao xs) (hn : xs.length ≤ 1125899906842624) :
  Calls Tryz.prog 50 #[.slice ao xs.length cap] w fun e w' => e = .returned (.bool (nbL xs)) ∧ w' = w := by
 obtain ⟨N, hN⟩ : ∃ N, xs.length = N := ⟨_, rfl⟩
 have HN : Hid (xs.length = N) := hN
 rw [hN] at hn ⊢
 clear hN
 go_enter Tryz.func50, Tryz.ntmps50
 go_wp2
 go_loopg [4, 7] N (fun g _ v wr => ∃ k : Nat, k ≤ N ∧ g = N - k ∧ v = .int .i64 k ∧ Hid (nbL (xs.take k) = true) ∧ wr = w)
 case atStart => exact ⟨0, by omega, rfl, rfl, rfl, rfl⟩
 case round =>
  obtain ⟨k, hk, hg, rfl, hq, rfl⟩ := hrel
  have HG : Hid (gk = N - k) := hg
  clear hg
  by_cases hlt : k < N
  ·rcases hr with h | ⟨b, off, rfl, hc⟩
   ·exact absurd (HN.out ▸ h) (by omega)
   ·have hkl : k < xs.length := by rw [HN.out]; exact hlt
    have g1 := hc k hkl
    have ht := ntake_at hkl
    have hnot := @nbL_not xs k hkl
    obtain ⟨x, ex⟩ : ∃ x, xs.getD k 0 = x := ⟨_, rfl⟩
    rw [ex] at g1 ht hnot
    have HS : Hid (nbL (xs.take (k + 1)) = nbB x) := (show _ = _ by rw [ht, nbL_snoc, hq.out]; rfl)
    have i1 : (k : Int) < (N : Int) := by omega
    have i2 : k < N := hlt
    have Hnot : Hid (nbB x = false → nbL xs = false) := hnot
    have HB : Hid (nbB x = (leF 4336966441157787648 x && leF x 4877398396442247168)) := (show _ = _ from rfl)
    have e1 : (FloatKind.f64.format.order 4336966441157787648 x == some .lt || FloatKind.f64.format.order 4336966441157787648 x == some .eq) = leF 4336966441157787648 x := rfl
    have e2 : (FloatKind.f64.format.order x 4877398396442247168 == some .lt || FloatKind.f64.format.order x 4877398396442247168 == some .eq) = leF x 4877398396442247168 := rfl
    clear hc ht ex hq hkl hnot
    generalize nbB x = nb at *
    generalize leF 4336966441157787648 x = p at *
    generalize leF x 4877398396442247168 = q at *
    cases p
    ·have Hn : Hid (nbL xs = false) := Hnot.out (by rw [HB.out]; rfl)
     clear Hnot HS HB
     go_wp2
     go_ret
     exact ⟨by rw [Hn.out]; rfl, rfl⟩
    ·cases q
     ·have Hn : Hid (nbL xs = false) := Hnot.out (by rw [HB.out]; rfl)
      clear Hnot HS HB
      go_wp2
      go_ret
      exact ⟨by rw [Hn.out]; rfl, rfl⟩
     ·have HS' : Hid (nbL (xs.take (k + 1)) = true) := HS.out.trans (by rw [HB.out]; rfl)
      clear Hnot HS HB
      go_wp2
      go_roundg (N - (k + 1))
      case measure => rw [HG.out]; omega
      case rel => exact ⟨k + 1, by omega, rfl, by go_num, HS', rfl⟩
  ·have e : xs.take k = xs := List.take_of_length_le (by have := HN.out; omega)
   have HS : Hid (nbL xs = true) := (show _ = _ by rw [← e]; exact hq.out)
   have i1 : ¬ (k : Int) < (N : Int) := by omega
   clear hq e
   go_wp2
   go_ret
   exact ⟨by rw [HS.out]; rfl, rfl⟩
theorem bmaxI {P : Program} {a b c : Int} (h : max a b = c) (ts : Array TypeId) (t : TypeId) (w : World) : (Builtin.max_ ts t #[.int .i64 a, .int .i64 b]).run P w = .ok (.int .i64 c) w := by
 have e : Builtin.max_ ts t #[.int .i64 a, .int .i64 b] = Builtin.max2 (.int .i64 a) (.int .i64 b) := by
  unfold Builtin.max_; simp
 rw [e]
 unfold Builtin.max2
 have e2 : (if b > a then b else a) = c := by rw [← h]; split <;> omega
 simp only [e2, Sem.run_pure]
theorem bminI {P : Program} {a b c : Int} (h : min a b = c) (ts : Array TypeId) (t : TypeId) (w : World) : (Builtin.min_ ts t #[.int .i64 a, .int .i64 b]).run P w = .ok (.int .i64 c) w := by
 have e : Builtin.min_ ts t #[.int .i64 a, .int .i64 b] = Builtin.min2 (.int .i64 a) (.int .i64 b) := by
  unfold Builtin.min_; simp
 rw [e]
 unfold Builtin.min2
 have e2 : (if b < a then b else a) = c := by rw [← h]; split <;> omega
 simp only [e2, Sem.run_pure]
set_option maxHeartbeats 1000000 in
theorem leads_any (a b : Int) (n : Nat) (w : World) :
  Calls Tryz.prog 49 #[.int .i64 a, .int .i64 b, .int .i64 n] w fun e w' => e = .returned (.bool (ldB a b n)) ∧ w' = w := by
 obtain ⟨lo, hlo⟩ : ∃ lo, min a b = lo := ⟨_, rfl⟩
 obtain ⟨hi, hhi⟩ : ∃ hi, max a b = hi := ⟨_, rfl⟩
 have h1 := fun ts t W => bminI (P := Tryz.prog) hlo ts t W
 have h2 := fun ts t W => bmaxI (P := Tryz.prog) hhi ts t W
 by_cases p : lo < 0
 ·have e : Hid (ldB a b n = false) := (show _ = _ by unfold ldB; rw [Bool.eq_false_iff]; simp; omega)
  clear hlo hhi
  have p' : ¬ 0 ≤ lo := by omega
  go_enter Tryz.func49, Tryz.ntmps49
  go_wp2
  go_ret
  exact ⟨by rw [e.out]; rfl, rfl⟩
 ·by_cases q : hi < (n : Int)
  ·by_cases z : a = b
   ·have e : Hid (ldB a b n = false) := (show _ = _ by unfold ldB; rw [Bool.eq_false_iff]; simp; omega)
    clear hlo hhi
    subst z
    have p' : 0 ≤ lo := by omega
    go_enter Tryz.func49, Tryz.ntmps49
    go_wp2
    go_ret
    exact ⟨by rw [e.out]; rfl, rfl⟩
   ·have e : Hid (ldB a b n = true) := (show _ = _ by unfold ldB; simp; omega)
    clear hlo hhi
    have p' : 0 ≤ lo := by omega
    have z' : (a != b) = true := by simpa using z
    go_enter Tryz.func49, Tryz.ntmps49
    go_wp2
    go_ret
    exact ⟨by rw [e.out, ← z']; rfl, rfl⟩
  ·have e : Hid (ldB a b n = false) := (show _ = _ by unfold ldB; rw [Bool.eq_false_iff]; simp; omega)
   clear hlo hhi
   have p' : 0 ≤ lo := by omega
   go_enter Tryz.func49, Tryz.ntmps49
   go_wp2
   go_ret
   exact ⟨by rw [e.out]; rfl, rfl⟩
set_option maxHeartbeats 1000000 in
theorem bisname_any (s : ByteArray) (hs : s.size ≤ maxLen) (w : World) :
  Calls Tryz.prog 48 #[.string s] w fun e w' => e = .returned (.bool (nmB s)) ∧ Below w.heap.size w w' := by
 have hjw : JWs [(s, 0, 0, 0)] := by
  intro j hj
  obtain rfl : j = (s, 0, 0, 0) := by simpa using hj
  unfold JW
  simp only
  exact ⟨hs, by decide, by decide, by decide, by decide, by decide⟩
 have cc := fun w' (h : JRow w' (some ⟨w.heap.size, 0, none⟩) [(s, 0, 0, 0)]) => check_any [(s, 0, 0, 0)] (some ⟨w.heap.size, 0, none⟩) 1 w' h hjw (by simp)
 rw [ck_name] at cc
 have hj := jrow_one w (s, 0, 0, 0) 40
 have hb0 : Below w.heap.size w (w.alloc (.cells #[.string s, .int .i32 0, .int .i32 0, .int .u8 0] 40)) := (Below.refl _ _).alloc (Nat.le_refl _) _
 simp only [List.length_cons, List.length_nil, Nat.zero_add] at cc hj
 cases h : nmB s <;> rw [h] at cc <;> simp only [Bool.false_eq_true, if_true, if_false] at cc
 ·go_enter Tryz.func48, Tryz.ntmps48
  go_wp2_with (go_at_call 29; refine (cc _ hj).mono ?_; rintro e w1 ⟨rfl, b1⟩)
  go_ret
  exact ⟨rfl, hb0.trans (b1.mono hb0.size)⟩
 ·go_enter Tryz.func48, Tryz.ntmps48
  go_wp2_with (go_at_call 29; refine (cc _ hj).mono ?_; rintro e w1 ⟨rfl, b1⟩)
  go_ret
  exact ⟨rfl, hb0.trans (b1.mono hb0.size)⟩
set_option maxHeartbeats 2000000 in
theorem bmaybe_any (m : Mb) (hm : MW m) (n : Nat) (w : World) :
  Calls Tryz.prog 30 #[mV m, .int .i64 n] w fun e w' => e = .returned (.bool (mmB n m)) ∧ Below w.heap.size w w' := by
 have X0 := MBox.new w m 38
 have hb0 : Below w.heap.size w (w.alloc (mO m 38)) := (Below.refl _ _).alloc (Nat.le_refl _) _
 have cn := fun w' => bisname_any m.nm hm.s w'
 have cl := fun w' => leads_any m.a m.b n w'
 have HM : Hid (mmB n m = (nmB m.nm && ldB m.a m.b n && (nbB m.e && nbB m.ar) && kdB m)) := (show _ = _ from rfl)
 have HK : Hid (kdB m = if m.kd = 1 then !m.ha && !m.hb && decide (m.i = 0) else if m.kd = 2 then nbB m.i else false) := (show _ = _ from rfl)
 clear hm
 obtain ⟨s, kd, a, b, ha, hb, e, ar, i⟩ := m
 unfold mV
 unfold mO at X0 hb0
 simp only at *
 generalize mmB n _ = mb at *
 generalize kdB _ = kb at *
 go_enter Tryz.func30, Tryz.ntmps30
 go_upto_region 1 with fail
 generalize w.alloc (.cells #[.string s, .int .u8 kd, .int .i64 a, .int .i64 b, .bool ha, .bool hb, .float .f64 e, .float .f64 ar, .float .f64 i] 38) = W0 at *
 obtain ⟨x0, x1, x2, x3, x4, x5, x6, x7, x8⟩ := X0.at0
 simp only [Nat.zero_add] at x0 x1 x2 x3 x4 x5 x6 x7 x8
 cases h0 : nmB s <;> rw [h0] at cn
 ·have Hn : Hid (mb = false) := HM.out.trans (by rw [h0]; rfl)
  clear HM HK h0
  go_wp2_with (go_at_call 48; refine (cn _).mono ?_; rintro e w1 ⟨rfl, b1⟩)
  go_ret
  exact ⟨by rw [Hn.out]; rfl, hb0.trans (b1.mono hb0.size)⟩
 cases h1 : ldB a b n <;> rw [h1] at cl
 ·have Hn : Hid (mb = false) := HM.out.trans (by rw [h0, h1]; rfl)
  clear HM HK h0 h1
  go_wp2_with (first | (go_at_call 49; refine (cl _).mono ?_; rintro e w2 ⟨rfl, rfl⟩) | (go_at_call 48; refine (cn _).mono ?_; rintro e w1 ⟨rfl, b1⟩; have X1 := X0.below b1; obtain ⟨y0, y1, y2, y3, y4, y5, y6, y7, y8⟩ := X1.at0; simp only [Nat.zero_add] at y0 y1 y2 y3 y4 y5 y6 y7 y8))
  go_ret
  exact ⟨by rw [Hn.out]; rfl, hb0.trans (b1.mono hb0.size)⟩
 have cw := fun w' => bwithin_any [e, ar] (some ⟨w'.heap.size, 0, none⟩) 2 (w'.alloc (.cells #[.float .f64 e, .float .f64 ar] 36)) (fsrow_two w' e ar _) (by simp)
 have e1 : nbL [e, ar] = (nbB e && nbB ar) := by simp [nbL]
 rw [e1] at cw
 have hend := fun w1 (b1 : Below W0.heap.size W0 w1) => (hb0.trans (b1.mono hb0.size)).alloc (Nat.le_trans hb0.size b1.size) (.cells #[.float .f64 e, .float .f64 ar] 36)
 cases h2 : (nbB e && nbB ar) <;> rw [h2] at cw
 ·have Hn : Hid (mb = false) := HM.out.trans (by rw [h0, h1, h2]; rfl)
  clear HM HK h0 h1 h2
  go_wp2_with (first | (go_at_call 50; refine (cw _).mono ?_; rintro e w3 ⟨rfl, rfl⟩; have X2 := X1.alloc (.cells #[.float .f64 e, .float .f64 ar] 36); obtain ⟨z0, z1, z2, z3, z4, z5, z6, z7, z8⟩ := X2.at0; simp only [Nat.zero_add] at z0 z1 z2 z3 z4 z5 z6 z7 z8) | (go_at_call 49; refine (cl _).mono ?_; rintro e w2 ⟨rfl, rfl⟩) | (go_at_call 48; refine (cn _).mono ?_; rintro e w1 ⟨rfl, b1⟩; have X1 := X0.below b1; obtain ⟨y0, y1, y2, y3, y4, y5, y6, y7, y8⟩ := X1.at0; simp only [Nat.zero_add] at y0 y1 y2 y3 y4 y5 y6 y7 y8))
  go_ret
  exact ⟨by rw [Hn.out]; rfl, hend _ b1⟩
 have Hmk : Hid (mb = kb) := HM.out.trans (by rw [h0, h1, h2]; rfl)
 clear HM h0 h1 h2
 by_cases k1 : kd = 1
 ·subst k1
  have HB : Hid (kb = (!ha && !hb && decide (i = 0))) := HK.out.trans (by rw [if_pos rfl])
  clear HK
  have fb := run_fbits i
  cases ha
  ·cases hb
   ·by_cases i0 : i = 0
    ·subst i0
     have Hn : Hid (mb = true) := Hmk.out.trans (HB.out.trans (by rfl))
     clear Hmk HB
     go_wp2_with (first | (go_at_call 50; refine (cw _).mono ?_; rintro e w3 ⟨rfl, rfl⟩; have X2 := X1.alloc (.cells #[.float .f64 e, .float .f64 ar] 36); obtain ⟨z0, z1, z2, z3, z4, z5, z6, z7, z8⟩ := X2.at0; simp only [Nat.zero_add] at z0 z1 z2 z3 z4 z5 z6 z7 z8) | (go_at_call 49; refine (cl _).mono ?_; rintro e w2 ⟨rfl, rfl⟩) | (go_at_call 48; refine (cn _).mono ?_; rintro e w1 ⟨rfl, b1⟩; have X1 := X0.below b1; obtain ⟨y0, y1, y2, y3, y4, y5, y6, y7, y8⟩ := X1.at0; simp only [Nat.zero_add] at y0 y1 y2 y3 y4 y5 y6 y7 y8))
     go_ret
     exact ⟨by rw [Hn.out]; rfl, hend _ b1⟩
    ·have Hn : Hid (mb = false) := Hmk.out.trans (HB.out.trans (by simp [i0]))
     have i1 : ((i : Int) == 0) = false := by simpa using i0
     clear Hmk HB
     go_wp2_with (first | (go_at_call 50; refine (cw _).mono ?_; rintro e w3 ⟨rfl, rfl⟩; have X2 := X1.alloc (.cells #[.float .f64 e, .float .f64 ar] 36); obtain ⟨z0, z1, z2, z3, z4, z5, z6, z7, z8⟩ := X2.at0; simp only [Nat.zero_add] at z0 z1 z2 z3 z4 z5 z6 z7 z8) | (go_at_call 49; refine (cl _).mono ?_; rintro e w2 ⟨rfl, rfl⟩) | (go_at_call 48; refine (cn _).mono ?_; rintro e w1 ⟨rfl, b1⟩; have X1 := X0.below b1; obtain ⟨y0, y1, y2, y3, y4, y5, y6, y7, y8⟩ := X1.at0; simp only [Nat.zero_add] at y0 y1 y2 y3 y4 y5 y6 y7 y8))
     go_ret
     exact ⟨by rw [Hn.out]; rfl, hend _ b1⟩
   ·have Hn : Hid (mb = false) := Hmk.out.trans (HB.out.trans (by rfl))
    clear Hmk HB
    go_wp2_with (first | (go_at_call 50; refine (cw _).mono ?_; rintro e w3 ⟨rfl, rfl⟩; have X2 := X1.alloc (.cells #[.float .f64 e, .float .f64 ar] 36); obtain ⟨z0, z1, z2, z3, z4, z5, z6, z7, z8⟩ := X2.at0; simp only [Nat.zero_add] at z0 z1 z2 z3 z4 z5 z6 z7 z8) | (go_at_call 49; refine (cl _).mono ?_; rintro e w2 ⟨rfl, rfl⟩) | (go_at_call 48; refine (cn _).mono ?_; rintro e w1 ⟨rfl, b1⟩; have X1 := X0.below b1; obtain ⟨y0, y1, y2, y3, y4, y5, y6, y7, y8⟩ := X1.at0; simp only [Nat.zero_add] at y0 y1 y2 y3 y4 y5 y6 y7 y8))
    go_ret
    exact ⟨by rw [Hn.out]; rfl, hend _ b1⟩
  ·have Hn : Hid (mb = false) := Hmk.out.trans (HB.out.trans (by rfl))
   clear Hmk HB
   go_wp2_with (first | (go_at_call 50; refine (cw _).mono ?_; rintro e w3 ⟨rfl, rfl⟩; have X2 := X1.alloc (.cells #[.float .f64 e, .float .f64 ar] 36); obtain ⟨z0, z1, z2, z3, z4, z5, z6, z7, z8⟩ := X2.at0; simp only [Nat.zero_add] at z0 z1 z2 z3 z4 z5 z6 z7 z8) | (go_at_call 49; refine (cl _).mono ?_; rintro e w2 ⟨rfl, rfl⟩) | (go_at_call 48; refine (cn _).mono ?_; rintro e w1 ⟨rfl, b1⟩; have X1 := X0.below b1; obtain ⟨y0, y1, y2, y3, y4, y5, y6, y7, y8⟩ := X1.at0; simp only [Nat.zero_add] at y0 y1 y2 y3 y4 y5 y6 y7 y8))
   go_ret
   exact ⟨by rw [Hn.out]; rfl, hend _ b1⟩
 ·by_cases k2 : kd = 2
  ·subst k2
   have HB : Hid (kb = nbB i) := HK.out.trans (by rw [if_neg (by decide), if_pos rfl])
   have cv := fun w' => bwithin_any [i] (some ⟨w'.heap.size, 0, none⟩) 1 (w'.alloc (.cells #[.float .f64 i] 36)) (fsrow_one w' i _) (by simp)
   have e2 : nbL [i] = nbB i := by simp [nbL]
   rw [e2] at cv
   have Hn : Hid (mb = nbB i) := Hmk.out.trans HB.out
   clear Hmk HB HK e2 k1
   have hend2 := fun w1 (b1 : Below W0.heap.size W0 w1) => (hend w1 b1).alloc (hend w1 b1).size (.cells #[.float .f64 i] 36)
   generalize nbB i = ni at *
   go_upto_region 3 with (first | (go_at_call 50; refine (cw _).mono ?_; rintro e w3 ⟨rfl, rfl⟩; have X2 := X1.alloc (.cells #[.float .f64 e, .float .f64 ar] 36); obtain ⟨z0, z1, z2, z3, z4, z5, z6, z7, z8⟩ := X2.at0; simp only [Nat.zero_add] at z0 z1 z2 z3 z4 z5 z6 z7 z8) | (go_at_call 49; refine (cl _).mono ?_; rintro e w2 ⟨rfl, rfl⟩) | (go_at_call 48; refine (cn _).mono ?_; rintro e w1 ⟨rfl, b1⟩; have X1 := X0.below b1; obtain ⟨y0, y1, y2, y3, y4, y5, y6, y7, y8⟩ := X1.at0; simp only [Nat.zero_add] at y0 y1 y2 y3 y4 y5 y6 y7 y8))
   go_wp2_with (go_at_call 50; have cv2 := cv (w2.alloc (.cells #[.float .f64 e, .float .f64 ar] 36)); rw [show (w2.alloc (.cells #[.float .f64 e, .float .f64 ar] 36)).heap.size = w2.heap.size + 1 by simp] at cv2; refine cv2.mono ?_; rintro e w4 ⟨rfl, rfl⟩)
   go_ret
   exact ⟨by rw [Hn.out]; rfl, hend2 _ b1⟩
  ·have Hn : Hid (mb = false) := Hmk.out.trans (HK.out.trans (by rw [if_neg k1, if_neg k2]))
   have i1 : ((kd : Int) == 1) = false := by simpa using (by omega : ¬ (kd : Int) = 1)
   have i2 : ((kd : Int) == 2) = false := by simpa using (by omega : ¬ (kd : Int) = 2)
   clear Hmk HK k1 k2
   go_wp2_with (first | (go_at_call 50; refine (cw _).mono ?_; rintro e w3 ⟨rfl, rfl⟩; have X2 := X1.alloc (.cells #[.float .f64 e, .float .f64 ar] 36); obtain ⟨z0, z1, z2, z3, z4, z5, z6, z7, z8⟩ := X2.at0; simp only [Nat.zero_add] at z0 z1 z2 z3 z4 z5 z6 z7 z8) | (go_at_call 49; refine (cl _).mono ?_; rintro e w2 ⟨rfl, rfl⟩) | (go_at_call 48; refine (cn _).mono ?_; rintro e w1 ⟨rfl, b1⟩; have X1 := X0.below b1; obtain ⟨y0, y1, y2, y3, y4, y5, y6, y7, y8⟩ := X1.at0; simp only [Nat.zero_add] at y0 y1 y2 y3 y4 y5 y6 y7 y8))
   go_ret
   exact ⟨by rw [Hn.out]; rfl, hend _ b1⟩
open Go.RowKit Go.Maps
def MkS1 (w : World) (B : Nat) (ms : List Mb) : Prop := ∃ D : DataW Unit, w.ownsMap Tryz.prog 9 (plainElem Tryz.prog 3) B ms.length D ∧ ∀ s : ByteArray, Maps.has D (.string s.data.toList) = hsM ms s
theorem mks_start (w : World) : MkS1 (w.alloc (.map #[] 0)) w.heap.size [] :=
 ⟨.map [], World.ownsMap_made w _ _ _, fun _ => rfl⟩
theorem MkS1.below2 {w w' : World} {B : Nat} {ms : List Mb} (h : MkS1 w B ms) (hb : Below w.heap.size w w') : MkS1 w' B ms := by
 obtain ⟨D, h1, h2⟩ := h
 exact ⟨D, owns_below h1 hb, h2⟩
theorem put_mnames {D : DataW Unit} {ms : List Mb} {m : Mb} (hD : IsMap D) (h : ∀ s : ByteArray, Maps.has D (.string s.data.toList) = hsM ms s) (d : DataW Unit) (s : ByteArray) :
  Maps.has (D.put (.string m.nm.data.toList) d) (.string s.data.toList) = hsM (ms ++ [m]) s := by
 rw [hsM_snoc]
 by_cases e : m.nm = s
 ·subst e
  rw [has_put_same hD (show WideAt.IsKeyLit (.string m.nm.data.toList) from trivial)]
  simp
 ·rw [has_put_other (fun q => e ?_), h]
  ·simp [e]
  ·have q1 : s.data.toList = m.nm.data.toList := by simpa using q
   have q2 : s.data = m.nm.data := Array.toList_inj.1 q1
   exact (ByteArray.ext q2).symm
set_option maxHeartbeats 4000000 in
theorem bcheck_any (js : List Jn) (ms : List Mb) (ao mo : Option Addr) (ac mc : Nat) (w : World) (hr : JRow w ao js) (hw : JWs js) (hn : js.length ≤ 1125899906842624) (mr : MRow w mo ms) (mw : MWs ms) (mn : ms.length ≤ 1125899906842624) :
  Calls Tryz.prog 15 #[.agg #[.slice ao js.length ac, .slice mo ms.length mc]] w fun e w' => e = .returned (.tuple #[.int .i64 (cpA js ms).1, .int .i64 ((cpA js ms).2 : Nat)]) ∧ Below w.heap.size w w' := by
 have cj := fun w' (h : JRow w' ao js) => check_any js ao ac w' h hw hn
 have hmm := @run_makeMap Tryz.prog
 obtain ⟨N, hN⟩ : ∃ N, ms.length = N := ⟨_, rfl⟩
 have HN : Hid (ms.length = N) := hN
 have HC : Hid (cpA js ms = if (ckA js).1 = 0 then cmA js.length ms else ckA js) := (show _ = _ from rfl)
 obtain ⟨A, hA⟩ : ∃ A, js.length = A := ⟨_, rfl⟩
 rw [hN] at mn ⊢
 rw [hA] at cj hn HC ⊢
 generalize cpA js ms = cp at *
 obtain ⟨⟨c1, c2⟩, hc⟩ : ∃ c, ckA js = c := ⟨_, rfl⟩
 rw [hc] at cj HC
 simp only at cj HC
 have hb0 : Below w.heap.size w (w.alloc (.cells #[.slice ao A ac, .slice mo N mc] 29)) := (Below.refl _ _).alloc (Nat.le_refl _) _
 have p0 : (w.alloc (.cells #[.slice ao A ac, .slice mo N mc] 29)).cell? ⟨w.heap.size, 0, none⟩ = some (.slice ao A ac) := by simp [go_sem]
 have p1 : (w.alloc (.cells #[.slice ao A ac, .slice mo N mc] 29)).cell? ⟨w.heap.size, 1, none⟩ = some (.slice mo N mc) := by simp [go_sem]
 have pl : w.heap.size < (w.alloc (.cells #[.slice ao A ac, .slice mo N mc] 29)).heap.size := by simp
 replace hr := hr.below hb0
 replace mr := mr.below hb0
 clear hw hc hN hA
 go_enter Tryz.func15, Tryz.ntmps15
 go_upto_region 1 with fail
 generalize w.alloc (.cells #[.slice ao A ac, .slice mo N mc] 29) = W0 at *
 by_cases hc0 : c1 = 0
 ·subst hc0
  have HC2 : Hid (cp = cmA A ms) := HC.out.trans (by rw [if_pos rfl])
  clear HC
  go_upto_region 2 with (go_at_call 29; refine (cj _ hr).mono ?_; rintro e w1 ⟨rfl, b1⟩)
  replace mr := mr.below b1
  have q0 : w1.cell? ⟨w.heap.size, 0, none⟩ = some (.slice ao A ac) := (b1.cell (p := ⟨w.heap.size, 0, none⟩) pl).trans p0
  have q1 : w1.cell? ⟨w.heap.size, 1, none⟩ = some (.slice mo N mc) := (b1.cell (p := ⟨w.heap.size, 1, none⟩) pl).trans p1
  replace pl : w.heap.size < w1.heap.size := Nat.lt_of_lt_of_le pl b1.size
  have hb1 := hb0.trans (b1.mono hb0.size)
  clear p0 p1 hb0 b1 cj hr
  by_cases h1 : 48 < N
  ·have i1 : (48 : Int) < (N : Int) := by omega
   have Hc : Hid (cp = (3, 0)) := HC2.out.trans (cm_long (by rw [HN.out]; exact h1))
   go_wp2
   go_ret2
   exact ⟨by rw [Hc.out]; rfl, hb1⟩
  have i1 : ¬ (48 : Int) < (N : Int) := by omega
  have HL : Hid (¬ 48 < ms.length) := (by rw [HN.out]; exact h1 : ¬ 48 < ms.length)
  have cs := mks_start w1
  have hbm : Below w1.heap.size w1 (w1.alloc (.map #[] 0)) := (Below.refl _ _).alloc (Nat.le_refl _) _
  have m1 : (w1.alloc (.map #[] 0)).cell? ⟨w.heap.size, 1, none⟩ = some (.slice mo N mc) := (hbm.cell (p := ⟨w.heap.size, 1, none⟩) pl).trans q1
  have mz1 : w1.heap.size + 1 ≤ (w1.alloc (.map #[] 0)).heap.size := by simp
  go_upto_region 7 with fail
  generalize w1.alloc (.map #[] 0) = W1 at *
  go_upto_region 8 with fail
  clear hmm h1 i1 m1
  go_loopg [29] N (fun g v wr => ∃ k : Nat, k ≤ N ∧ g = N - k ∧ v = .int .i64 k ∧ Hid (∀ i, i < k → fM A ms i = false) ∧ MkS1 wr w1.heap.size (ms.take k) ∧ Below w1.heap.size w1 wr ∧ w1.heap.size + 1 ≤ wr.heap.size)
  case atStart => exact ⟨0, by omega, rfl, rfl, (fun i hi => absurd hi (by omega)), cs, hbm, mz1⟩
  case round =>
   obtain ⟨k, hk, hg, rfl, hq, hs, hbr, hz⟩ := hrel
   have HG : Hid (gk = N - k) := hg
   clear hg cs hbm mz1 W1
   by_cases hlt : k < N
   ·rcases mr.below hbr with h | ⟨b, off, rfl, hc⟩
    ·exact absurd (HN.out ▸ h) (by omega)
    ·have hkl : k < ms.length := by rw [HN.out]; exact hlt
     have gm := hc k hkl
     have hmw := mw.at hkl
     have hbl : b < wr.heap.size := gm.lt
     obtain ⟨m, ex⟩ : ∃ m, ms.getD k mz = m := ⟨_, rfl⟩
     rw [ex] at gm hmw
     have HF : Hid (fM A ms k = (hsM (ms.take k) m.nm || !mmB A m)) := (show _ = _ by unfold fM; rw [ex])
     have Htk : Hid (ms.take (k + 1) = ms.take k ++ [m]) := (show _ = _ by rw [mtake_at hkl, ex])
     have X7 := MBox.new wr m 38
     have st : Below wr.heap.size wr (wr.alloc (mO m 38)) := (Below.refl _ _).alloc (Nat.le_refl _) _
     have cm := fun w' => bmaybe_any m hmw A w'
     have hkN := WideMaps.keyOf_string_mk Tryz.underlying9 hmw.s
     have hlen : (ms.take k).length = k := by rw [List.length_take]; omega
     clear hc mr ex
     obtain ⟨D, hD, hDh⟩ := hs
     have hDs := hDh m.nm
     generalize hsM (ms.take k) m.nm = hn1 at *
     generalize mmB A m = my at *
     have HB : Hid (fM A ms k = true → cp = (290, k)) := fun q => HC2.out.trans (cm_bad HL.out hkl hq.out q)
     have HPM : Hid (∀ D : DataW Unit, IsMap D → (∀ s : ByteArray, Maps.has D (.string s.data.toList) = hsM (ms.take k) s) → ∀ d s, Maps.has (D.put (.string m.nm.data.toList) d) (.string s.data.toList) = hsM (ms.take k ++ [m]) s) := fun D a b d s => put_mnames (m := m) a b d s
     obtain ⟨s, kd, xa, xb, ha, hb, xe, xr, xi⟩ := m
     unfold mV at cm
     unfold mO at X7 st
     simp only at *
     obtain ⟨g0, g1, g2, g3, g4, g5, g6, g7, g8⟩ := gm
     simp only at g0 g1 g2 g3 g4 g5 g6 g7 g8
     have i2 : (k : Int) < (N : Int) := by omega
     have n1 : b ≠ wr.heap.size := by omega
     have n2 : wr.heap.size ≠ b := by omega
     have hst := run_storef Tryz.prog
     go_upto_region 10 with fail
     clear hst
     have r0 : wr.cell? ⟨w.heap.size, 0, none⟩ = some (.slice ao A ac) := (hbr.cell (p := ⟨w.heap.size, 0, none⟩) pl).trans q0
     have plr : w.heap.size < wr.heap.size := Nat.lt_of_lt_of_le pl hbr.size
     have R0 := (st.cell (p := ⟨w.heap.size, 0, none⟩) plr).trans r0
     have hD0 := owns_below hD st
     have hbs := hbr.trans (st.mono hbr.size)
     have hz2 : w1.heap.size + 1 ≤ (wr.alloc (.cells #[.string s, .int .u8 kd, .int .i64 xa, .int .i64 xb, .bool ha, .bool hb, .float .f64 xe, .float .f64 xr, .float .f64 xi] 38)).heap.size := Nat.le_trans hz st.size
     clear g0 g1 g2 g3 g4 g5 g6 g7 g8 hD st
     generalize hWe : wr.alloc (.cells #[.string s, .int .u8 kd, .int .i64 xa, .int .i64 xb, .bool ha, .bool hb, .float .f64 xe, .float .f64 xr, .float .f64 xi] 38) = W at *
     clear hWe
     obtain ⟨x0, x1, x2, x3, x4, x5, x6, x7, x8⟩ := X7.at0
     simp only [Nat.zero_add] at x0 x1 x2 x3 x4 x5 x6 x7 x8
     have xl := X7.lt
     have g1 := hb1.trans (hbs.mono hb1.size)
     go_upto_region 11 with (at_lookup; refine wpList_lookup_own_ok_int _ rfl _ _ 80 rfl 9 3 .i64 lawN Tryz.underlying80 Tryz.underlying3 (zero18 _) w1.heap.size _ _ rfl hD0 _ _ rfl hkN ?_; rw [hDs]; intro c1' _ _)
     cases hn1
     ·cases my
      ·have Hc : Hid (cp = (290, k)) := HB.out (by rw [HF.out]; rfl)
       go_wp2_with (go_at_call 30; refine (cm _).mono ?_; rintro e w2 ⟨rfl, b2⟩)
       go_ret2
       exact ⟨by rw [Hc.out]; rfl, g1.trans (b2.mono g1.size)⟩
      ·have HQ : Hid (∀ i, i < k + 1 → fM A ms i = false) := fun i hi => by
        rcases (show i < k ∨ i = k by omega) with h | rfl
        ·exact hq.out i h
        ·rw [HF.out]; rfl
       go_upto_region 13 with (go_at_call 30; refine (cm _).mono ?_; rintro e w2 ⟨rfl, b2⟩)
       have y0 : w2.cell? ⟨wr.heap.size, 0, none⟩ = some (.string s) := (b2.cell (p := ⟨wr.heap.size, 0, none⟩) xl).trans x0
       have IMD := hD0.isMap
       have hD1 := owns_below hD0 b2
       have hb2 := hbs.trans (b2.mono hbs.size)
       have hz3 : w1.heap.size + 1 ≤ w2.heap.size := Nat.le_trans hz2 b2.size
       rw [hlen] at hD1
       clear hD0 x0 x1 x2 x3 x4 x5 x6 x7 x8 X7 cm b2 HB HF hDs R0 r0
       go_upto_region 14 with (at_mapUpdate; refine wpList_mapUpdate_own _ rfl _ _ _ 80 rfl 9 3 lawN Tryz.underlying80 _ w1.heap.size k _ rfl hD1 (by unfold maxLen; omega) _ _ _ rfl rfl hkN _ [] (plainElem_int Tryz.underlying3 (WalkArith.wf_i64 (by omega))) ?_; intro w3 hD3 g3)
       have hb3 := hb2.grown g3 hb2.size (fun j hj => by cases hj; exact Nat.le_refl _)
       have HS3 : MkS1 w3 w1.heap.size (ms.take (k + 1)) := by
        rw [Htk.out]
        have q : (ms.take k ++ [(⟨s, kd, xa, xb, ha, hb, xe, xr, xi⟩ : Mb)]).length = k + 1 := by rw [List.length_append, hlen]; rfl
        have hD4 := hD3
        rw [← q] at hD4
        exact ⟨_, hD4, fun s' => HPM.out _ IMD hDh _ s'⟩
       clear hDh hD3 hD1
       go_wp2
       go_roundg (N - (k + 1))
       case measure => rw [HG.out]; omega
       case rel => exact ⟨k + 1, by omega, rfl, by go_num, HQ, HS3, hb3, by have := g3.size; omega⟩
     ·have Hc : Hid (cp = (290, k)) := HB.out (by rw [HF.out]; rfl)
      go_wp2
      go_ret2
      exact ⟨by rw [Hc.out]; rfl, g1⟩
   ·have e : k = ms.length := by have := HN.out; omega
    have Hc : Hid (cp = (0, 0)) := HC2.out.trans (cm_ok HL.out (by rw [← e]; exact hq.out))
    have i2 : ¬ (k : Int) < (N : Int) := by omega
    clear e
    go_wp2
    go_ret2
    exact ⟨by rw [Hc.out]; rfl, hb1.trans (hbr.mono hb1.size)⟩
 ·have hne : (c1 != 0) = true := by simpa using hc0
  have HC2 : Hid (cp = (c1, c2)) := HC.out.trans (by rw [if_neg hc0])
  clear HC hc0
  go_wp2_with (go_at_call 29; refine (cj _ hr).mono ?_; rintro e w1 ⟨rfl, b1⟩)
  go_ret2
  exact ⟨by rw [HC2.out]; rfl, hb0.trans (b1.mono hb0.size)⟩
end Go.Proofs.YtfipmopmpacdaaaGreatDoor
