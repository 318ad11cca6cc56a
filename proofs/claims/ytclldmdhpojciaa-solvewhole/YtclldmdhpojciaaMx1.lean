/- Matrices as they are told; what the program's order, count, place, entry, alike, Right answer. -/
import Derived.Test.YtclldmdhpojciaaAc
import Derived.Test.YtclldmdhpojciaaAe
namespace Go.Proofs.Ytclldmdhpojciaa
open Go.RowKit

/-- A matrix as a value. -/
abbrev mxV (r c : Int) (ao : Option Addr) (n cap : Nat) : Value := .agg #[.int .i64 r, .int .i64 c, .slice ao n cap]
/-- A later world. -/
structure LOf (W : World) where
  val : World
  below : Below W.heap.size W val
theorem region_later {P : Program} {id : Nat} {Q : Exit → Act → World → Prop} {a : Act} {w : World} {l : List Oper} (hm : P.follows .mixedOrders = true) (hB : Region.lexB .any l.toArray = true)
    (h : wpQuiet P l.toArray (fun w' => ∃ u : LOf w, w' = u.val) (fun a' => ∀ w', (∃ u : LOf w, w' = u.val) → Q .normal a' w') l a) : (Code.region id l.toArray true).wp P Q a w :=
  wp_region_quiet (C := fun w' => ∃ u : LOf w, w' = u.val) hm hB ⟨⟨w.drew, (Below.refl _ _).drew⟩, rfl⟩ h
theorem later_of {P : Program} {f : Nat} {args : Array Value} {W : World} {u : LOf W} {v : Value} (h : Calls P f args u.val fun e w' => e = .returned v ∧ Below u.val.heap.size u.val w') : Calls P f args u.val fun e w'' => e = .returned v ∧ ∃ u' : LOf W, w'' = u'.val :=
  h.mono fun _ w' ⟨he, hb⟩ => ⟨he, ⟨w', u.below.trans (hb.mono u.below.size)⟩, rfl⟩
theorem later_same {P : Program} {f : Nat} {args : Array Value} {W : World} {u : LOf W} {v : Value} (h : Calls P f args u.val fun e w' => e = .returned v ∧ w' = u.val) : Calls P f args u.val fun e w'' => e = .returned v ∧ ∃ u' : LOf W, w'' = u'.val :=
  h.mono fun _ _ ⟨he, hb⟩ => ⟨he, u, hb⟩
theorem LOf.cell {W : World} (u : LOf W) {p : Addr} {v : Value} (h : W.cell? p = some v) : u.val.cell? p = some v := by
  rw [u.below.cell (World.block_lt_of_cell? W _ h)]; exact h
theorem LOf.any (W : World) : Nonempty (LOf W) := ⟨⟨W, Below.refl _ _⟩⟩
theorem LOf.row {W : World} (u : LOf W) {ao : Option Addr} {xs : List Nat} (h : GRow W ao xs) : GRow u.val ao xs := h.below u.below
/-- May there be so many rows, or columns? -/
def okN (n : Int) : Bool := decide (0 ≤ n) && decide (n ≤ 48)
theorem okN_iff {n : Int} : okN n = true ↔ 0 ≤ n ∧ n ≤ 48 := by unfold okN; simp
theorem okN_nat {n : Int} (h : okN n = true) : ∃ k : Nat, n = k ∧ k ≤ 48 := by
  obtain ⟨h1, h2⟩ := okN_iff.1 h
  exact ⟨n.toNat, by omega, by omega⟩
def rightM (r c : Int) (n : Nat) : Bool := okN r && okN c && decide ((n : Int) = r * c)
theorem mul48 {i c : Nat} (hi : i ≤ 48) (hc : c ≤ 48) : i * c ≤ 2304 := Nat.le_trans (Nat.mul_le_mul hi hc) (by decide)
theorem mulI {i c : Nat} : (i : Int) * (c : Int) = ((i * c : Nat) : Int) := (Int.natCast_mul i c).symm
theorem rightM_nat {r c : Int} {n : Nat} (h : rightM r c n = true) : ∃ R C : Nat, r = R ∧ c = C ∧ R ≤ 48 ∧ C ≤ 48 ∧ n = R * C := by
  unfold rightM at h
  simp only [Bool.and_eq_true, decide_eq_true_eq] at h
  obtain ⟨⟨h1, h2⟩, h3⟩ := h
  obtain ⟨R, rfl, hR⟩ := okN_nat h1
  obtain ⟨C, rfl, hC⟩ := okN_nat h2
  refine ⟨R, C, rfl, rfl, hR, hC, ?_⟩
  rw [mulI] at h3
  exact Int.ofNat.inj h3
theorem rightM_yes {R C : Nat} (hR : R ≤ 48) (hC : C ≤ 48) : rightM R C (R * C) = true := by
  unfold rightM
  rw [okN_iff.2 ⟨by omega, by omega⟩, okN_iff.2 ⟨by omega, by omega⟩, mulI]
  simp
set_option maxHeartbeats 400000 in
theorem morder_any (n : Int) (w : World) : Calls Try.prog 53 #[.int .i64 n] w fun e w' => e = .returned (.bool (okN n)) ∧ w' = w := by
  unfold okN
  by_cases h1 : 0 ≤ n
  · rw [decide_eq_true h1]
    by_cases h2 : n ≤ 48
    · rw [decide_eq_true h2]
      go_enter Try.func53, Try.ntmps53
      go_wp2
      go_ret
      exact ⟨rfl, rfl⟩
    · rw [decide_eq_false h2]
      go_enter Try.func53, Try.ntmps53
      go_wp2
      go_ret
      exact ⟨rfl, rfl⟩
  · rw [decide_eq_false h1]
    go_enter Try.func53, Try.ntmps53
    go_wp2
    go_ret
    exact ⟨rfl, rfl⟩
set_option maxHeartbeats 400000 in
theorem mcount_any (R C p : Nat) (hR : R ≤ 48) (hC : C ≤ 48) (hp : R * C = p) (w : World) : Calls Try.prog 59 #[.int .i64 R, .int .i64 C] w fun e w' => e = .returned (.int .i64 (p : Int)) ∧ w' = w := by
  have hm := mul48 hR hC
  have e1 : (R : Int) * (C : Int) = (p : Int) := by rw [mulI, hp]
  have hb : p ≤ 2304 := by omega
  clear hm hp
  go_enter Try.func59, Try.ntmps59
  go_wp2
  go_ret
  exact ⟨rfl, rfl⟩
set_option maxHeartbeats 400000 in
theorem mplace_any (R : Int) (C i j p n cap : Nat) (ao : Option Addr) (hi : i ≤ 48) (hC : C ≤ 48) (hj : j ≤ 48) (hp : i * C + j = p) (w : World) :
    Calls Try.prog 60 #[mxV R C ao n cap, .int .i64 i, .int .i64 j] w fun e w' => e = .returned (.int .i64 (p : Int)) ∧ Below w.heap.size w w' := by
  have hm := mul48 hi hC
  obtain ⟨q, hq⟩ : ∃ q, i * C = q := ⟨_, rfl⟩
  have e1 : (i : Int) * (C : Int) = (q : Int) := by rw [mulI, hq]
  rw [hq] at hm hp
  clear hq
  have HP : Hid (q + j = p) := hp
  clear hp
  go_enter Try.func60, Try.ntmps60
  go_wp2
  go_ret
  exact ⟨end_int (by have := HP.out; omega), (Below.refl _ _).alloc (Nat.le_refl _) _⟩
set_option maxHeartbeats 1000000 in
theorem mentry_any (xs : List Nat) (R : Int) (C i j p n cap : Nat) (ao : Option Addr) (w : World) (hr : GRow w ao xs) (hi : i ≤ 48) (hC : C ≤ 48) (hj : j ≤ 48) (hp : i * C + j = p) (hl : p < xs.length) (hn : xs.length = n) :
    Calls Try.prog 58 #[mxV R C ao n cap, .int .i64 i, .int .i64 j] w fun e w' => e = .returned (.float .f64 (xs.getD p 0)) ∧ Below w.heap.size w w' := by
  rcases hr with h | ⟨b, off, rfl, hc⟩
  · omega
  have g := hc p hl
  rw [hn] at hl
  have hpl := fun w => mplace_any R C i j p n cap (some ⟨b, off, none⟩) hi hC hj hp w
  generalize xs.getD p 0 = x at *
  have hlI : (p : Int) < (n : Int) := by omega
  clear hc hp
  go_enter Try.func58, Try.ntmps58
  go_wp2
  have hne : Nonempty (LOf (w.alloc (.cells #[.int .i64 R, .int .i64 C, .slice (some ⟨b, off, none⟩) n cap] 34))) := LOf.any _
  have k0 : ∀ u : LOf (w.alloc (.cells #[.int .i64 R, .int .i64 C, .slice (some ⟨b, off, none⟩) n cap] 34)), u.val.cell? ⟨w.heap.size, 0, none⟩ = some (.int .i64 R) := fun u => u.cell (by go_simp)
  have k1 : ∀ u : LOf (w.alloc (.cells #[.int .i64 R, .int .i64 C, .slice (some ⟨b, off, none⟩) n cap] 34)), u.val.cell? ⟨w.heap.size, 1, none⟩ = some (.int .i64 C) := fun u => u.cell (by go_simp)
  have k2 : ∀ u : LOf (w.alloc (.cells #[.int .i64 R, .int .i64 C, .slice (some ⟨b, off, none⟩) n cap] 34)), u.val.cell? ⟨w.heap.size, 2, none⟩ = some (.slice (some ⟨b, off, none⟩) n cap) := fun u => u.cell (by go_simp)
  have hold : Below w.heap.size w (w.alloc (.cells #[.int .i64 R, .int .i64 C, .slice (some ⟨b, off, none⟩) n cap] 34)) := (Below.refl _ _).alloc (Nat.le_refl _) _
  have k3 : ∀ u : LOf (w.alloc (.cells #[.int .i64 R, .int .i64 C, .slice (some ⟨b, off, none⟩) n cap] 34)), u.val.cell? ⟨b, off + p, none⟩ = some (.float .f64 x) := fun u => u.cell (by rw [hold.cell (World.block_lt_of_cell? w _ g)]; exact g)
  refine region_later (by kernel_rfl) (by kernel_rfl) ?_
  repeat (quiet_step ((go_at_call 60; exact later_of (hpl _))))
  refine wpQuiet_nil ?_
  intro w' hw'
  obtain ⟨u, rfl⟩ := hw'
  have hb := hold.trans (u.below.mono hold.size)
  go_wp2
  go_ret
  exact ⟨rfl, hb⟩
end Go.Proofs.Ytclldmdhpojciaa
