/- Sums of right dyads, as they are laid at the lesser power: no program in this text. -/
import Derived.Test.YtfipmopmpacdaaaGreatDoorV3
import Derived.Shelf.Spec.BitsCarry
namespace Go.Proofs.YtfipmopmpacdaaaGreatDoor
open Go.RowKit
theorem add64_run (x y c : Int) (hx : 0 ≤ x) (hy : 0 ≤ y) (hc0 : 0 ≤ c) (hc : c ≤ 1) (w : World) : (callFunc 127 #[.int .u64 x, .int .u64 y, .int .u64 c]).run Tryz.prog w =
  .ok (.value (.tuple #[.int .u64 ((x + y + c) % 18446744073709551616), .int .u64 ((x + y + c) / 18446744073709551616)])) w := by
 rw [run_callFunc_extern Tryz.func127 (by kernel_rfl) (by kernel_rfl) (by kernel_rfl) (e := add64Entry) (by kernel_rfl), run_add64 x y c hx hy hc0 hc]
 rfl
theorem sub64_run (x y c : Nat) (hc : c ≤ 1) (w : World) : (callFunc 128 #[.int .u64 x, .int .u64 y, .int .u64 c]).run Tryz.prog w =
  .ok (.value (.tuple #[.int .u64 (((x + 18446744073709551616 - y - c) % 18446744073709551616 : Nat) : Int), .int .u64 ((if x < y + c then 1 else 0 : Nat) : Int)])) w := by
 rw [run_callFunc_extern Tryz.func128 (by kernel_rfl) (by kernel_rfl) (by kernel_rfl) (e := sub64Entry) (by kernel_rfl), run_sub64 x y c hc]
 rfl
theorem ret2U {a b c d : Int} (h : a = b) (g : c = d) : Ending.returned (.tuple #[.int .u64 a, .int .u64 c]) = .returned (.tuple #[.int .u64 b, .int .u64 d]) := by rw [h, g]
theorem wrapU_bd (n : Int) : 0 ≤ IntKind.u64.wrap n ∧ IntKind.u64.wrap n < 18446744073709551616 := by rw [IntKind.wrap_u64]; omega
theorem mul64_high (x y : Int) (hx0 : 0 ≤ x) (hx : x < 18446744073709551616) (hy0 : 0 ≤ y) (hy : y < 18446744073709551616) :
  IntKind.u64.wrap (IntKind.u64.wrap (IntKind.u64.wrap (x / 4294967296 * (y / 4294967296)) + IntKind.u64.wrap (IntKind.u64.wrap (x / 4294967296 * (y % 4294967296)) + IntKind.u64.wrap (x % 4294967296 * (y % 4294967296)) / 4294967296) / 4294967296) +
   IntKind.u64.wrap (bits BinOp.and IntKind.u64 (IntKind.u64.wrap (IntKind.u64.wrap (x / 4294967296 * (y % 4294967296)) + IntKind.u64.wrap (x % 4294967296 * (y % 4294967296)) / 4294967296)) 4294967295 + IntKind.u64.wrap (x % 4294967296 * (y / 4294967296))) / 4294967296) = x * y / 18446744073709551616 := by
 have t := wrapU_bd (IntKind.u64.wrap (x / 4294967296 * (y % 4294967296)) + IntKind.u64.wrap (x % 4294967296 * (y % 4294967296)) / 4294967296)
 rw [and_low32 _ t.1 t.2]
 simp only [IntKind.wrap_u64]
 exact mul64_arith x y hx0 hx hy0 hy
set_option maxHeartbeats 1000000 in
theorem mul64_any (x y : Int) (hx0 : 0 ≤ x) (hx : x < 18446744073709551616) (hy0 : 0 ≤ y) (hy : y < 18446744073709551616) (w : World) :
  Calls Tryz.prog 132 #[.int .u64 x, .int .u64 y] w fun e w' => e = .returned (.tuple #[.int .u64 (x * y / 18446744073709551616), .int .u64 (x * y % 18446744073709551616)]) ∧ w' = w := by
 have m1 := and_low32 x hx0 hx
 have m2 := and_low32 y hy0 hy
 go_enter Tryz.func132, Tryz.ntmps132
 go_wp2
 go_ret2
 exact ⟨ret2U (mul64_high x y hx0 hx hy0 hy) (by rw [IntKind.wrap_u64]), rfl⟩
theorem add64_0 (x y : Int) (hx : 0 ≤ x) (hy : 0 ≤ y) (w : World) : (callFunc 127 #[.int .u64 x, .int .u64 y, .int .u64 0]).run Tryz.prog w =
  .ok (.value (.tuple #[.int .u64 ((x + y) % 18446744073709551616), .int .u64 ((x + y) / 18446744073709551616)])) w := by
 have := add64_run x y 0 hx hy (Int.le_refl 0) (by decide) w
 rw [Int.add_zero] at this
 exact this
theorem add64_up (x c : Int) (hx : 0 ≤ x) (hc0 : 0 ≤ c) (hc : c ≤ 1) (hs : x + c < 18446744073709551616) (w : World) : (callFunc 127 #[.int .u64 x, .int .u64 0, .int .u64 c]).run Tryz.prog w =
  .ok (.value (.tuple #[.int .u64 (x + c), .int .u64 ((x + c) / 18446744073709551616)])) w := by
 have := add64_run x 0 c hx (Int.le_refl 0) hc0 hc w
 rw [Int.add_zero, Int.emod_eq_of_lt (by omega) hs] at this
 exact this
def laidF (f : Nat → Nat) (off k : Nat) (out : List Nat) (j : Nat) : Nat := if off ≤ j ∧ j < off + k then out.getD (j - off) 0 else f j
theorem laidF_zero (f : Nat → Nat) (off : Nat) (out : List Nat) (j : Nat) : laidF f off 0 out j = f j := by unfold laidF; rw [if_neg (by omega)]
theorem laidF_snoc {f : Nat → Nat} {off k : Nat} {out : List Nat} (hl : out.length = k) (v j : Nat) : (if j = off + k then v else laidF f off k out j) = laidF f off (k + 1) (out ++ [v]) j := by
 unfold laidF
 by_cases h : j = off + k
 ·rw [if_pos h, if_pos (by omega), h, show off + k - off = k by omega, List.getD_eq_getElem?_getD, List.getElem?_append_right (by omega)]
  simp [hl]
 ·rw [if_neg h]
  by_cases h2 : off ≤ j ∧ j < off + k
  ·rw [if_pos h2, if_pos (by omega), List.getD_eq_getElem?_getD, List.getD_eq_getElem?_getD, List.getElem?_append_left (by omega)]
  ·rw [if_neg h2, if_neg (by omega)]
def GaveRow (w0 : World) (L : Nat) (f : Nat → Nat) (off : Nat) (t xs : List Nat) (b : Nat) (e : Ending) (w' : World) : Prop :=
 ∃ out c : _, e = .returned (.int .u64 ((c : Nat) : Int)) ∧ Rowed t xs b xs.length out c ∧ FRow w' w0.heap.size L (laidF f off xs.length out) ∧ Below w0.heap.size w0 w'
set_option maxHeartbeats 1000000 in
theorem addTimes_any (w0 w : World) (xs t : List Nat) (ao : Option Addr) (cap capT L off b : Nat) (f : Nat → Nat) (hr : LRow w0 ao xs) (hb : Below w0.heap.size w0 w) (hrow : FRow w w0.heap.size L f)
  (hL : Lm xs) (ht : Lm t) (htl : t.length = xs.length) (htf : ∀ j, j < xs.length → f (off + j) = t.getD j 0) (hoff : off + xs.length ≤ L) (hn : xs.length ≤ 100000) (hbv : b < 18446744073709551616) (hct : xs.length ≤ capT) (hct0 : capT ≠ 0) :
  Calls Tryz.prog 123 #[.slice (some ⟨w0.heap.size, off, none⟩) xs.length capT, .slice ao xs.length cap, .int .u64 b] w (GaveRow w0 L f off t xs b) := by
 have HF : Hid (∀ j, j < xs.length → f (off + j) = t.getD j 0) := htf
 clear htf
 go_enter Tryz.func123, Tryz.ntmps123
 go_wp2
 go_loopg [18, 7] xs.length (fun g i cv wr => ∃ (k : Nat) (out : List Nat) (c : Nat), k ≤ xs.length ∧ g = xs.length - k ∧ i = .int .i64 k ∧ cv = .int .u64 c ∧ Hid (Rowed t xs b k out c) ∧ FRow wr w0.heap.size L (laidF f off k out) ∧ Below w0.heap.size w0 wr)
 case atStart => exact ⟨0, [], 0, Nat.zero_le _, rfl, rfl, rfl, rowed_nil _ _ _, hrow.congr (fun j _ => (laidF_zero f off [] j).symm), hb⟩
 case round =>
  obtain ⟨k, out, c, hk, hg, rfl, rfl, hR, hrw, hbw⟩ := hrel
  clear hrow hb
  by_cases hlt : k < xs.length
  ·have hrx := hr.below hbw
   rcases hrx with h | ⟨bx, ox, rfl, hc⟩
   ·omega
   ·have g1 := hc k hlt
    have kx := hL.getD k
    have ky := ht.getD k
    have kc : c < 18446744073709551616 := hR.out.2.2.1
    have g2 : wr.cell? ⟨w0.heap.size, off + k, none⟩ = some (.int .u64 ((laidF f off k out (off + k) : Nat) : Int)) := World.rowIs.cell hrw (by omega)
    have g3 := World.rowIs.frozen hrw (off + k)
    have e2 : laidF f off k out (off + k) = t.getD k 0 := by unfold laidF; rw [if_neg (by omega)]; exact HF.out k hlt
    rw [e2] at g2
    have HS : Hid (Rowed t xs b (k + 1) (out ++ [(xs.getD k 0 * b + t.getD k 0 + c) % 18446744073709551616]) ((xs.getD k 0 * b + t.getD k 0 + c) / 18446744073709551616)) := rowed_step hR.out ht hL hbv hlt (by omega)
    have hol : out.length = k := hR.out.2.1
    obtain ⟨x, hx⟩ : ∃ x, xs.getD k 0 = x := ⟨_, rfl⟩
    obtain ⟨y, hy⟩ : ∃ y, t.getD k 0 = y := ⟨_, rfl⟩
    rw [hx, hy] at HS
    rw [hx] at g1 kx
    rw [hy] at g2 ky
    have hm := mul64_any (x : Int) (b : Int) (by omega) (by omega) (by omega) (by omega) wr
    have p0 : 0 ≤ (x : Int) * b := Int.mul_nonneg (by omega) (by omega)
    have ev : ((((x * b + y + c) % 18446744073709551616 : Nat)) : Int) = ((x : Int) * b + y + c) % 18446744073709551616 := by rw [Int.natCast_emod, Int.natCast_add, Int.natCast_add, Int.natCast_mul]; rfl
    have ec : ((((x * b + y + c) / 18446744073709551616 : Nat)) : Int) = ((x : Int) * b + y + c) / 18446744073709551616 := by rw [Int.natCast_ediv, Int.natCast_add, Int.natCast_add, Int.natCast_mul]; rfl
    have hset := hrw.set (off + k) ((x * b + y + c) % 18446744073709551616)
    rw [ev] at hset
    have p1 : (x : Int) * b ≤ 18446744073709551615 * 18446744073709551615 := Int.mul_le_mul (by omega) (by omega) (by omega) (by omega)
    generalize (x : Int) * (b : Int) = p at *
    have s2 : p / 18446744073709551616 + (p % 18446744073709551616 + y) / 18446744073709551616 + ((p + y) % 18446744073709551616 + c) / 18446744073709551616 = (p + y + c) / 18446744073709551616 := by omega
    have HV2 : Hid (((x * b + y + c) / 18446744073709551616 : Nat) = p / 18446744073709551616 + (p % 18446744073709551616 + y) / 18446744073709551616 + ((p + y) % 18446744073709551616 + c) / 18446744073709551616) := ec.trans s2.symm
    have ha1 := fun w => add64_0 (p % 18446744073709551616) (y : Int) (by omega) (by omega) w
    have ha2 := fun w => add64_0 ((p + y) % 18446744073709551616) (c : Int) (by omega) (by omega) w
    have ha3 := fun w => add64_up (p / 18446744073709551616) ((p % 18446744073709551616 + y) / 18446744073709551616) (by omega) (by omega) (by omega) (by omega) w
    have ha4 := fun w => add64_up (p / 18446744073709551616 + (p % 18446744073709551616 + y) / 18446744073709551616) (((p + y) % 18446744073709551616 + c) / 18446744073709551616) (by omega) (by omega) (by omega) (by omega) w
    have hbs := fun v => hbw.setCell (p := ⟨w0.heap.size, off + k, none⟩) (Nat.le_refl _) (.int .u64 v)
    clear hc hr hx hy hrw hbw s2 ev ec hR HF e2
    go_wp2_with (go_at_call 132; refine hm.mono ?_; rintro e w' ⟨rfl, hww⟩; subst hww)
    go_roundg (xs.length - (k + 1))
    case measure => omega
    case rel =>
     refine ⟨k + 1, _, _, by omega, rfl, by go_num, ?_, HS, hset.congr (fun j _ => laidF_snoc hol _ j), hbs _⟩
     rw [HV2.out]
  ·have hkk : k = xs.length := by omega
   subst hkk
   go_wp2
   go_ret
   exact ⟨out, c, rfl, hR.out, hrw, hbw⟩
def vF : Nat → (Nat → Nat) → Nat
 | 0, _ => 0
 | n + 1, f => vF n f + 2 ^ (64 * n) * f n
theorem vF_congr {n : Nat} {f g : Nat → Nat} (h : ∀ j, j < n → f j = g j) : vF n f = vF n g := by
 induction n with
 | zero => rfl
 | succ n ih => rw [vF, vF, ih (fun j hj => h j (by omega)), h n (by omega)]
theorem vF_zero {n : Nat} {f : Nat → Nat} (h : ∀ j, j < n → f j = 0) : vF n f = 0 := by
 induction n with
 | zero => rfl
 | succ n ih => rw [vF, ih (fun j hj => h j (by omega)), h n (by omega), Nat.mul_zero]
theorem vF_split (a b : Nat) (f : Nat → Nat) : vF (a + b) f = vF a f + 2 ^ (64 * a) * vF b (fun j => f (a + j)) := by
 induction b with
 | zero => simp [vF]
 | succ b ih =>
  rw [← Nat.add_assoc, vF, vF, ih, show 64 * (a + b) = 64 * a + 64 * b by omega, Nat.pow_add, Nat.mul_add, Nat.mul_assoc, Nat.add_assoc]
theorem vF_list (xs : List Nat) : ∀ k, k ≤ xs.length → vF k (fun j => xs.getD j 0) = vl (xs.take k)
 | 0, _ => by simp [vF, vl]
 | k + 1, h => by rw [vF, vF_list xs k (by omega), vl_take_succ (by omega)]
def toL (n : Nat) (f : Nat → Nat) : List Nat := (List.range n).map f
theorem toL_length (n : Nat) (f : Nat → Nat) : (toL n f).length = n := by simp [toL]
theorem toL_getD {n : Nat} {f : Nat → Nat} {j : Nat} (h : j < n) : (toL n f).getD j 0 = f j := by simp [toL, List.getD_eq_getElem?_getD, h]
theorem toL_vl (n : Nat) (f : Nat → Nat) : vl (toL n f) = vF n f := by
 have := vF_list (toL n f) n (by rw [toL_length]; omega)
 rw [List.take_of_length_le (by rw [toL_length]; omega)] at this
 rw [← this]
 exact vF_congr fun j hj => toL_getD hj
theorem toL_lm {n : Nat} {f : Nat → Nat} (h : ∀ j, j < n → f j < 18446744073709551616) : Lm (toL n f) := by
 intro x hx
 simp only [toL, List.mem_map, List.mem_range] at hx
 obtain ⟨j, hj, rfl⟩ := hx
 exact h j hj
def Prod' (xs ys : List Nat) (n k : Nat) (f : Nat → Nat) : Prop := (∀ j, j < n → f j < 18446744073709551616) ∧ vF n f = vl (xs.take k) * vl ys ∧ ∀ j, k + ys.length ≤ j → f j = 0
theorem prod_nil (xs ys : List Nat) (n : Nat) : Prod' xs ys n 0 (fun _ => 0) := ⟨fun _ _ => (show 0 < 18446744073709551616 by omega), by rw [vF_zero (fun _ _ => rfl)]; simp [vl], fun _ _ => rfl⟩
theorem prod_step {xs ys : List Nat} {n k : Nat} {f : Nat → Nat} {out : List Nat} {c : Nat} (h : Prod' xs ys n k f) (hn : n = xs.length + ys.length) (hk : k < xs.length)
  (hR : Rowed (toL ys.length fun j => f (k + j)) ys (xs.getD k 0) ys.length out c) :
  Prod' xs ys n (k + 1) (fun j => if j = k + ys.length then c else laidF f k ys.length out j) := by
 obtain ⟨h1, h2, h3⟩ := h
 obtain ⟨r1, r2, r3, r4⟩ := hR
 have ht : (toL ys.length fun j => f (k + j)).take ys.length = toL ys.length fun j => f (k + j) := List.take_of_length_le (by rw [toL_length]; omega)
 rw [ht, toL_vl, List.take_length] at r4
 refine ⟨fun j hj => ?_, ?_, fun j hj => ?_⟩
 ·by_cases e : j = k + ys.length
  ·simp only [e, if_true]; exact r3
  ·simp only [e, if_false]
   unfold laidF
   split
   ·exact r1.getD _
   ·exact h1 j hj
 ·obtain ⟨r, hr⟩ : ∃ r, n = k + (ys.length + (1 + r)) := ⟨n - k - ys.length - 1, by omega⟩
  rw [hr, vF_split, vF_split, vF_split] at h2 ⊢
  have e1 : vF k (fun j => if j = k + ys.length then c else laidF f k ys.length out j) = vF k f := vF_congr fun j hj => by
   simp only [show j ≠ k + ys.length by omega, if_false]; unfold laidF; rw [if_neg (by omega)]
  have e2 : vF ys.length (fun j => if k + j = k + ys.length then c else laidF f k ys.length out (k + j)) = vl out := by
   have := vF_list out ys.length (by omega)
   rw [List.take_of_length_le (by omega)] at this
   rw [← this]
   exact vF_congr fun j hj => by
    simp only [show ¬ k + j = k + ys.length by omega, if_false]; unfold laidF; rw [if_pos (by omega), show k + j - k = j by omega]
  have e3 : vF 1 (fun j => if k + (ys.length + j) = k + ys.length then c else laidF f k ys.length out (k + (ys.length + j))) = c := by
   simp [vF]
  have e4 : vF r (fun j => if k + (ys.length + (1 + j)) = k + ys.length then c else laidF f k ys.length out (k + (ys.length + (1 + j)))) = 0 := vF_zero fun j hj => by
   simp only [show ¬ k + (ys.length + (1 + j)) = k + ys.length by omega, if_false]; unfold laidF; rw [if_neg (by omega)]; exact h3 _ (by omega)
  have e5 : vF 1 (fun j => f (k + (ys.length + j))) = 0 := vF_zero fun j _ => h3 _ (by omega)
  have e6 : vF r (fun j => f (k + (ys.length + (1 + j)))) = 0 := vF_zero fun j _ => h3 _ (by omega)
  rw [e1, e2, e3, e4, Nat.mul_zero, Nat.add_zero, r4]
  rw [e5, e6, Nat.mul_zero, Nat.add_zero] at h2
  rw [vl_take_succ hk, Nat.add_mul, ← h2, Nat.mul_add, ← Nat.add_assoc, Nat.mul_assoc, Nat.mul_comm (xs.getD k 0)]
 ·have hj' : (k + 1) + ys.length ≤ j := hj
  simp only [show j ≠ k + ys.length by omega, if_false]
  unfold laidF; rw [if_neg (by omega)]; exact h3 j (by omega)
def GaveP (w : World) (xs ys : List Nat) (e : Ending) (w' : World) : Prop :=
 ∃ (n : Nat) (f : Nat → Nat), e = .returned (.slice (some ⟨w.heap.size, 0, none⟩) n (xs.length + ys.length)) ∧ n ≤ xs.length + ys.length ∧ (∀ j, j < n → f j < 18446744073709551616) ∧ vF n f = vl xs * vl ys ∧ LRow w' (some ⟨w.heap.size, 0, none⟩) (toL n f) ∧ Below w.heap.size w w'
theorem FRow.lrowL {w : World} {b n : Nat} {f : Nat → Nat} (h : FRow w b n f) : LRow w (some ⟨b, 0, none⟩) (toL n f) := h.lrow (toL_length _ _) (fun _ hj => toL_getD hj)
theorem LRow.cutL {w : World} {ao : Option Addr} {n m : Nat} {f : Nat → Nat} (h : LRow w ao (toL n f)) (hm : m ≤ n) : LRow w ao (toL m f) := by
 by_cases h0 : m = 0
 ·exact Or.inl (by rw [toL_length]; exact h0)
 rcases h with h | ⟨b, o, rfl, hc⟩
 ·rw [toL_length] at h; omega
 ·refine Or.inr ⟨b, o, rfl, fun j hj => ?_⟩
  rw [toL_length] at hj
  rw [hc j (by rw [toL_length]; omega), toL_getD (by omega), toL_getD hj]
theorem trim_vF {n : Nat} {f : Nat → Nat} (h : ∀ j, j < n → f j < 18446744073709551616) : (bl (vF n f) + 63) / 64 ≤ n ∧ vF ((bl (vF n f) + 63) / 64) f = vF n f := by
 have hb : ∀ m, (∀ j, j < m → f j < 18446744073709551616) → vF m f < 2 ^ (64 * m) := fun m hm => by
  induction m with
  | zero => simp [vF]
  | succ m ih =>
   have i1 := ih (fun j hj => hm j (by omega))
   have i2 := hm m (by omega)
   rw [vF, show 64 * (m + 1) = 64 * m + 64 by omega, Nat.pow_add, p64]
   have : 2 ^ (64 * m) * f m ≤ 2 ^ (64 * m) * 18446744073709551615 := Nat.mul_le_mul_left _ (by omega)
   omega
 have h1 := hb n h
 have h2 : bl (vF n f) ≤ 64 * n := bl_le_iff.2 h1
 refine ⟨by omega, ?_⟩
 obtain ⟨m, hm⟩ : ∃ m, (bl (vF n f) + 63) / 64 = m := ⟨_, rfl⟩
 rw [hm]
 obtain ⟨r, rfl⟩ : ∃ r, n = m + r := ⟨n - m, by omega⟩
 have h3 : vF (m + r) f < 2 ^ (64 * m) := bl_le_iff.1 (by omega)
 rw [vF_split] at h3 ⊢
 have h4 : vF r (fun j => f (m + j)) = 0 := by
  rcases Nat.eq_zero_or_pos (vF r (fun j => f (m + j))) with h | h
  ·exact h
  ·have := Nat.mul_le_mul_left (2 ^ (64 * m)) h
   omega
 rw [h4, Nat.mul_zero, Nat.add_zero]
set_option maxHeartbeats 400000 in
theorem trim_any (n c : Nat) (f : Nat → Nat) (b : Nat) (w : World) (hr : LRow w (some ⟨b, 0, none⟩) (toL n f)) (h : ∀ j, j < n → f j < 18446744073709551616) (hnc : n ≤ c) (hc : c ≤ 1000000) :
  Calls Tryz.prog 124 #[.slice (some ⟨b, 0, none⟩) n c] w fun e w' => e = .returned (.slice (some ⟨b, 0, none⟩) ((bl (vF n f) + 63) / 64) c) ∧ w' = w := by
 have hcl := bitLen_any (toL n f) (some ⟨b, 0, none⟩) c w hr (toL_lm h) (by rw [toL_length]; omega)
 rw [toL_length, toL_vl] at hcl
 have ht := (trim_vF h).1
 obtain ⟨l, hl⟩ : ∃ l, bl (vF n f) = l := ⟨_, rfl⟩
 rw [hl] at hcl ht ⊢
 have i1 : ((l : Int) + 64 - 1) / 64 = (((l + 63) / 64 : Nat) : Int) := by omega
 have i2 : (((l + 63) / 64 : Nat) : Int) ≤ (c : Int) := by omega
 have i3 : l ≤ 100000000 := by omega
 obtain ⟨m, hm⟩ : ∃ m, (l + 63) / 64 = m := ⟨_, rfl⟩
 rw [hm] at i1 i2 ⊢
 clear hl hm ht hr h
 go_enter Tryz.func124, Tryz.ntmps124
 go_wp2_with (go_at_call 121; refine hcl.mono ?_; rintro e w1 ⟨rfl, h1⟩; subst w1)
 go_ret
 exact ⟨rfl, rfl⟩
set_option maxHeartbeats 1000000 in
theorem product_big (xs ys : List Nat) (ao bo : Option Addr) (cap bcap : Nat) (w : World) (hr : LRow w ao xs) (hs : LRow w bo ys) (hL : Lm xs) (hM : Lm ys) (n1 : xs.length ≤ 40000) (n2 : ys.length ≤ 40000) :
  Calls Tryz.prog 113 #[.slice ao xs.length cap, .slice bo ys.length bcap] w (GaveP w xs ys) := by
 have hmk := run_make_row' (P := Tryz.prog) 47 92 (.int .u64 0) 8 Tryz.underlying47 Tryz.infoU rfl .i64 .i64 (xs.length + ys.length) (by omega) (by omega)
 rw [Int.natCast_add] at hmk
 have hmade := FRow.made w (xs.length + ys.length)
 have hbm : Below w.heap.size w (w.alloc (.cells (madeCells #[.int .u64 0] (xs.length + ys.length)) 92)) := (Below.refl _ _).alloc (Nat.le_refl _) _
 go_enter Tryz.func113, Tryz.ntmps113
 go_wp2
 clear hmk
 go_loopg [15] xs.length (fun g i wr => ∃ (k : Nat) (f : Nat → Nat), k ≤ xs.length ∧ g = xs.length - k ∧ i = .int .i64 k ∧ Hid (Prod' xs ys (xs.length + ys.length) k f) ∧ FRow wr w.heap.size (xs.length + ys.length) f ∧ Below w.heap.size w wr)
 case atStart => exact ⟨0, _, Nat.zero_le _, rfl, rfl, prod_nil _ _ _, hmade, hbm⟩
 case round =>
  obtain ⟨k, f, hk, hg, rfl, hP, hrw, hbw⟩ := hrel
  clear hmade hbm
  by_cases hlt : k < xs.length
  ·rcases hr with h | ⟨bx, ox, rfl, hc⟩
   ·omega
   ·have g0 := hc k hlt
    have hblk := World.block_lt_of_cell? w _ g0
    have g1 : wr.cell? ⟨bx, ox + k, none⟩ = some (.int .u64 (xs.getD k 0 : Nat)) := by rw [hbw.cell hblk]; exact g0
    obtain ⟨x, hx⟩ : ∃ x, xs.getD k 0 = x := ⟨_, rfl⟩
    have kx := hL.getD k
    rw [hx] at g0 g1 kx
    have HX : Hid (xs.getD k 0 = x) := hx
    have htl : (toL ys.length fun j => f (k + j)).length = ys.length := toL_length _ _
    have htm : Lm (toL ys.length fun j => f (k + j)) := toL_lm fun j hj => hP.out.1 _ (by omega)
    have hct := fun w' (hb' : Below w.heap.size w w') (hf' : FRow w' w.heap.size (xs.length + ys.length) f) => addTimes_any w w' ys (toL ys.length fun j => f (k + j)) bo bcap (xs.length + ys.length - k) (xs.length + ys.length) k x f hs hb' hf' hM htm htl (fun j hj => (toL_getD (f := fun j => f (k + j)) hj).symm) (by omega) (by omega) kx (by omega) (by omega)
    have i1 : (k : Int) < (xs.length : Int) := by omega
    have i2 : (k : Int) + (ys.length : Int) < (xs.length : Int) + (ys.length : Int) := by omega
    have i0 : (0 : Int) ≤ (k : Int) := by omega
    have hwr : IntKind.i64.wrap ((k : Int) + (ys.length : Int)) = (k : Int) + (ys.length : Int) := by rw [IntKind.wrap_i64]; omega
    have i3 : (k : Int) ≤ (k : Int) + (ys.length : Int) := by omega
    have i4 : (k : Int) + (ys.length : Int) ≤ (xs.length : Int) + (ys.length : Int) := by omega
    have i5 : ¬ xs.length + ys.length = k := by omega
    have i6 : ((k : Int) + (ys.length : Int) - (k : Int)).toNat = ys.length := by omega
    have i7 : (0 : Int) ≤ (k : Int) + (ys.length : Int) := by omega
    have i8 : ((k : Int) + (ys.length : Int)).toNat = k + ys.length := by omega
    clear hc hx
    go_wp2
    go_region_held3 (fun w' => w'.cell? ⟨bx, ox + k, none⟩ = some (.int .u64 x)) (go_keep)
     (first | (go_at_call 123; refine (hct wr.drew hbw.drew hrw).mono ?_; rintro e w1 ⟨out, c, rfl, hR, hrow1, hb1⟩; have g3 := World.rowIs.cell hrow1 (i := k + ys.length) (by omega); have g4 := World.rowIs.frozen hrow1 (k + ys.length); have g2 : w1.cell? ⟨bx, ox + k, none⟩ = some (.int .u64 x) := (by rw [hb1.cell hblk]; exact g0); have g5 : ∀ v, (w1.setCell ⟨w.heap.size, k + ys.length, none⟩ v).cell? ⟨bx, ox + k, none⟩ = some (.int .u64 x) := (fun v => (by rw [World.cell?_of_block (w := w1) (Below.heap_setCell w1 _ v bx (by have := hblk; simp only at this ⊢; omega))]; exact g2))))
    have HR : Hid _ := hR
    have hset := hrow1.set (k + ys.length) c
    have hbs := hb1.setCell (p := ⟨w.heap.size, k + ys.length, none⟩) (Nat.le_refl _) (.int .u64 (c : Int))
    clear hR hct hrow1 hb1 g3 g4 g2 g5 hwr
    go_wp2
    go_roundg (xs.length - (k + 1))
    case measure => omega
    case rel =>
     refine ⟨k + 1, _, by omega, rfl, by go_num, prod_step hP.out rfl hlt ?_, hset, hbs⟩
     have := HR.out
     rw [HX.out]
     exact this
  ·have hkk : k = xs.length := by omega
   subst hkk
   have htr := trim_any (xs.length + ys.length) (xs.length + ys.length) f w.heap.size wr hrw.lrowL hP.out.1 (Nat.le_refl _) (by omega)
   obtain ⟨ht1, ht2⟩ := trim_vF hP.out.1
   obtain ⟨m, hm⟩ : ∃ m, (bl (vF (xs.length + ys.length) f) + 63) / 64 = m := ⟨_, rfl⟩
   rw [hm] at htr ht1 ht2
   have HV : Hid (vF m f = vl xs * vl ys) := (show vF m f = vl xs * vl ys by rw [ht2, hP.out.2.1, List.take_length])
   clear hm ht2
   go_wp2_with (go_at_call 124; refine htr.mono ?_; rintro e w1 ⟨rfl, h1⟩; subst w1)
   go_ret
   exact ⟨m, f, rfl, ht1, fun j hj => hP.out.1 j (by omega), HV.out, hrw.lrowL.cutL ht1, hbw⟩
theorem product_any (xs ys : List Nat) (ao bo : Option Addr) (cap bcap : Nat) (w : World) (hr : LRow w ao xs) (hs : LRow w bo ys) (hL : Lm xs) (hM : Lm ys) (n1 : xs.length ≤ 1000) (n2 : ys.length ≤ 1000) :
  Calls Tryz.prog 113 #[.slice ao xs.length cap, .slice bo ys.length bcap] w (GaveP w xs ys) := product_big xs ys ao bo cap bcap w hr hs hL hM (by omega) (by omega)
set_option maxHeartbeats 400000 in
theorem clone_any (xs : List Nat) (ao : Option Addr) (cap : Nat) (w : World) (hr : LRow w ao xs) (hn : xs.length ≤ 17592186044416) :
  Calls Tryz.prog 133 #[.slice ao xs.length cap] w (GaveL w xs) := by
 obtain ⟨i0, hi, hz0, hz1, hz2⟩ := info_parts Tryz.infoU
 have hq : ∀ (w : World) (a : Option Addr) (n c n' c' : Nat), (binOp .eql 47 (.slice a n c) (.slice none n' c')).run Tryz.prog w = .ok (.bool a.isNone) w := fun w a n c n' c' => Lib.run_eql_slice_nil w _ _ a n c n' c' Tryz.underlying47
 cases ao with
 | none =>
  have hl : xs.length = 0 := by
   rcases hr with h | ⟨b, off, e, _⟩
   ·exact h
   ·cases e
  go_enter Tryz.func133, Tryz.ntmps133
  go_wp2
  go_ret
  exact ⟨none, 0, by rw [hl]; rfl, Or.inl hl, fun _ => ⟨rfl, hl⟩, Frs.none _, Below.refl _ _⟩
 | some ad =>
  have hnews : ∀ o, ∀ j u, (uv xs)[j]? = some u → (w.alloc o).cell? (ad.add j) = some u := by
   intro o j u hu
   obtain ⟨hj, rfl⟩ := uv_get hu
   rcases hr with h | ⟨b, off, e, hc⟩
   ·omega
   ·cases e
    have g := cell_alloc (hc j hj) o
    simp only [Addr.add]
    split
    ·rename_i h; subst h; exact g
    ·exact g
  go_enter Tryz.func133, Tryz.ntmps133
  go_wp2_with (at_builtin; refine wpList_append_own _ rfl _ _ 47 rfl w.heap.size 92 i0 (.int .u64 0) 1 8 Tryz.underlying47 hi hz0 hz1 hz2 rfl (by decide) _ 0 [] rfl (World.ownsRow_made w #[] 0 (Nat.le_refl _) (Nat.zero_le _) rfl) ad xs.length cap (uv xs) rfl (by rw [uv_length, Nat.mul_one]) (hnews _) uv_one (by unfold maxLen; omega) (by omega) (by simp) ?_; intro v' w1 hown hgrow _)
  rw [Nat.zero_add, List.nil_append] at hown
  obtain ⟨ao', cap', rfl, hrow, hcz, hfr⟩ := owned_lrow hown
  have hgrow' : (w.alloc (.cells #[] 92)).grownBy w1 (some w.heap.size) := hgrow
  clear hgrow
  go_wp2
  go_ret
  refine ⟨ao', cap', rfl, hrow, fun h => ⟨hcz h, ?_⟩, hfr, ((Below.refl _ _).alloc (Nat.le_refl _) _).grown hgrow' (by simp) (fun k hk => by cases hk; omega)⟩
  rcases hrow with h1 | ⟨b, off, h2, _⟩
  ·exact h1
  ·rw [h] at h2; cases h2
set_option maxHeartbeats 400000 in
theorem copied_any (d : Dy) (ao : Option Addr) (cap : Nat) (w : World) (hr : LRow w ao d.mag) (hn : d.mag.length ≤ 17592186044416) :
  Calls Tryz.prog 125 #[.agg #[.bool d.neg, .slice ao d.mag.length cap, .int .i64 d.exp]] w fun e w' => ∃ ao' cap', e = .returned (.agg #[.bool d.neg, .slice ao' d.mag.length cap', .int .i64 d.exp]) ∧ LRow w' ao' d.mag ∧ Frs w.heap.size ao' ∧ Below w.heap.size w w' := by
 obtain ⟨neg, xs, ex⟩ := d
 simp only at *
 go_enter Tryz.func125, Tryz.ntmps125
 go_wp2_with (go_at_call 133; refine (clone_any _ _ _ _ ((hr.alloc _).alloc _) hn).mono ?_; rintro e w1 ⟨ao', cap', rfl, hrow, _, hfr, hb⟩; obtain ⟨⟨c0, c1, c2⟩, ⟨d0, d1, d2⟩, ⟨f0, f1, f2⟩, g0, g1, g2⟩ := box2 hb)
 have hfr2 : Frs (w.heap.size + 2) ao' := hfr.mono (by go_simp)
 refine bodyPost_ret (v := .agg #[.bool neg, .slice ao' xs.length cap', .int .i64 ex]) (by simp [results, Tryz.results125, go_sem, d0, d1, d2]) rfl ⟨ao', cap', rfl, ?_, hfr2.mono (by omega), ?_⟩
 ·exact (((hrow.box hfr2 (by omega) _ _).box hfr2 (by omega) _ _).box hfr2 (by omega) _ _).box hfr2 (by omega) _ _
 ·exact ((((box2_old hb).setCell (by simp) _).setCell (by simp) _).setCell (by simp) _).setCell (by simp) _
theorem norm_at (neg : Bool) (xs : List Nat) (ex : Int) (n : Nat) (hn : xs.length = n) (ao : Option Addr) (cap : Nat) (w : World) (hr : LRow w ao xs) (hL : Lm xs) (hT : TabW w) (hl : n ≤ 1125899906842624) :
  Calls Tryz.prog 112 #[.agg #[.bool neg, .slice ao n cap, .int .i64 ex]] w (Gave w (normD ⟨neg, xs, ex⟩)) := by
 subst hn
 exact norm_any ⟨neg, xs, ex⟩ ao cap w hr hL hT hl
theorem sv_mul {a b : Dy} {zs : List Nat} {e : Int} (hz : vl zs = vl a.mag * vl b.mag) : sv ⟨a.neg != b.neg, zs, e⟩ = sv a * sv b := by
 unfold sv
 simp only [hz, Int.natCast_mul]
 cases a.neg <;> cases b.neg <;> simp [Int.neg_mul, Int.mul_neg]
theorem mul_norm {a b : Dy} (ha : rightB a = true) (hb : rightB b = true) {zs : List Nat} (hz : vl zs = vl a.mag * vl b.mag) : normD ⟨a.neg != b.neg, zs, a.exp + b.exp⟩ = mulD a b := by
 have xa := right_exp ha
 have xb := right_exp hb
 unfold mulD
 rw [ha, hb]
 simp only [Bool.and_self, if_true]
 have := nrm_shift (sv a * sv b) (a.exp + b.exp) ((a.exp + 65536).toNat + (b.exp + 65536).toNat)
 rw [show a.exp + b.exp - (((a.exp + 65536).toNat + (b.exp + 65536).toNat : Nat) : Int) = -131072 by omega, pow_add_int] at this
 unfold normD
 rw [sv_mul hz, ← this]
 unfold qd
 congr 1
 rw [Int.mul_assoc, Int.mul_assoc, Int.mul_left_comm (sv b)]
theorem box3 {w w1 : World} {x0 x1 x2 y0 y1 y2 z0 z1 z2 : Value} {s t u : TypeId} (hb : Below (((w.alloc (.cells #[x0, x1, x2] s)).alloc (.cells #[y0, y1, y2] t)).alloc (.cells #[z0, z1, z2] u)).heap.size (((w.alloc (.cells #[x0, x1, x2] s)).alloc (.cells #[y0, y1, y2] t)).alloc (.cells #[z0, z1, z2] u)) w1) :
  (w1.cell? ⟨w.heap.size, 0, none⟩ = some x0 ∧ w1.cell? ⟨w.heap.size, 1, none⟩ = some x1 ∧ w1.cell? ⟨w.heap.size, 2, none⟩ = some x2 ∧
  w1.cell? ⟨w.heap.size + 1, 0, none⟩ = some y0 ∧ w1.cell? ⟨w.heap.size + 1, 1, none⟩ = some y1 ∧ w1.cell? ⟨w.heap.size + 1, 2, none⟩ = some y2) ∧
  (w1.cell? ⟨w.heap.size + 1 + 1, 0, none⟩ = some z0 ∧ w1.cell? ⟨w.heap.size + 1 + 1, 1, none⟩ = some z1 ∧ w1.cell? ⟨w.heap.size + 1 + 1, 2, none⟩ = some z2) ∧
  (w1.frozen? ⟨w.heap.size + 1 + 1, 0, none⟩ = false ∧ w1.frozen? ⟨w.heap.size + 1 + 1, 1, none⟩ = false ∧ w1.frozen? ⟨w.heap.size + 1 + 1, 2, none⟩ = false) ∧ Below w.heap.size w w1 := by
 obtain ⟨hc, hf⟩ := oldc hb
 have l0 : w.heap.size < (((w.alloc (.cells #[x0, x1, x2] s)).alloc (.cells #[y0, y1, y2] t)).alloc (.cells #[z0, z1, z2] u)).heap.size := by go_simp
 have l1 : w.heap.size + 1 < (((w.alloc (.cells #[x0, x1, x2] s)).alloc (.cells #[y0, y1, y2] t)).alloc (.cells #[z0, z1, z2] u)).heap.size := by go_simp
 have l2 : w.heap.size + 1 + 1 < (((w.alloc (.cells #[x0, x1, x2] s)).alloc (.cells #[y0, y1, y2] t)).alloc (.cells #[z0, z1, z2] u)).heap.size := by go_simp
 have h1 : Below w.heap.size w (((w.alloc (.cells #[x0, x1, x2] s)).alloc (.cells #[y0, y1, y2] t)).alloc (.cells #[z0, z1, z2] u)) := ((((Below.refl _ _).alloc (Nat.le_refl _) _).alloc (by simp) _).alloc (by go_simp; omega) _)
 refine ⟨⟨?_, ?_, ?_, ?_, ?_, ?_⟩, ⟨?_, ?_, ?_⟩, ⟨?_, ?_, ?_⟩, h1.trans (hb.mono (by omega))⟩
 ·rw [hc _ _ l0]; go_simp
 ·rw [hc _ _ l0]; go_simp
 ·rw [hc _ _ l0]; go_simp
 ·rw [hc _ _ l1]; go_simp
 ·rw [hc _ _ l1]; go_simp
 ·rw [hc _ _ l1]; go_simp
 ·rw [hc _ _ l2]; go_simp
 ·rw [hc _ _ l2]; go_simp
 ·rw [hc _ _ l2]; go_simp
 ·rw [hf _ _ l2]; go_simp
 ·rw [hf _ _ l2]; go_simp
 ·rw [hf _ _ l2]; go_simp
theorem three_on {w1 w2 : World} (h : Below w1.heap.size w1 w2) {p : Nat} {x0 x1 x2 : Value} (hc : w1.cell? ⟨p, 0, none⟩ = some x0 ∧ w1.cell? ⟨p, 1, none⟩ = some x1 ∧ w1.cell? ⟨p, 2, none⟩ = some x2) :
  w2.cell? ⟨p, 0, none⟩ = some x0 ∧ w2.cell? ⟨p, 1, none⟩ = some x1 ∧ w2.cell? ⟨p, 2, none⟩ = some x2 := by
 have one : ∀ (o : Nat) (v : Value), w1.cell? ⟨p, o, none⟩ = some v → w2.cell? ⟨p, o, none⟩ = some v := fun o v hc => by
  rw [h.cell (World.block_lt_of_cell? w1 _ hc)]; exact hc
 exact ⟨one _ _ hc.1, one _ _ hc.2.1, one _ _ hc.2.2⟩
theorem marks_on {w1 w2 : World} (h : Below w1.heap.size w1 w2) {p : Nat} {x0 : Value} (hc : w1.cell? ⟨p, 0, none⟩ = some x0) (hf : w1.frozen? ⟨p, 0, none⟩ = false ∧ w1.frozen? ⟨p, 1, none⟩ = false ∧ w1.frozen? ⟨p, 2, none⟩ = false) :
  w2.frozen? ⟨p, 0, none⟩ = false ∧ w2.frozen? ⟨p, 1, none⟩ = false ∧ w2.frozen? ⟨p, 2, none⟩ = false := by
 have hl := World.block_lt_of_cell? w1 _ hc
 exact ⟨by rw [h.frozen hl]; exact hf.1, by rw [h.frozen (p := ⟨p, 1, none⟩) hl]; exact hf.2.1, by rw [h.frozen (p := ⟨p, 2, none⟩) hl]; exact hf.2.2⟩
set_option maxHeartbeats 1000000 in
theorem mul_ok (n1 n2 : Bool) (m1 m2 : List Nat) (e1 e2 : Int) (ao bo : Option Addr) (cap bcap : Nat) (w : World) (hr : LRow w ao m1) (hs : LRow w bo m2) (la : Lm m1) (lb : Lm m2) (hT : TabW w)
  (ra : rightB ⟨n1, m1, e1⟩ = true) (rb : rightB ⟨n2, m2, e2⟩ = true) :
  Calls Tryz.prog 108 #[.agg #[.bool n1, .slice ao m1.length cap, .int .i64 e1], .agg #[.bool n2, .slice bo m2.length bcap, .int .i64 e2]] w (Gave w (mulD ⟨n1, m1, e1⟩ ⟨n2, m2, e2⟩)) := by
 have xa := right_exp ra
 have xb := right_exp rb
 simp only at xa xb
 have hwr : IntKind.i64.wrap (e1 + e2) = e1 + e2 := by rw [IntKind.wrap_i64]; omega
 have l1 : m1.length ≤ 1000 := by omega
 have l2 : m2.length ≤ 1000 := by omega
 obtain ⟨⟨⟨rn, rm, re⟩, rk⟩, hrr⟩ : ∃ r, mulD ⟨n1, m1, e1⟩ ⟨n2, m2, e2⟩ = r := ⟨_, rfl⟩
 have HN : Hid (∀ n f, vF n f = vl m1 * vl m2 → normD ⟨n1 != n2, toL n f, e1 + e2⟩ = (⟨rn, rm, re⟩, rk)) := fun n f hf => by
  rw [← hrr]
  refine mul_norm (a := ⟨n1, m1, e1⟩) (b := ⟨n2, m2, e2⟩) ra rb ?_
  rw [toL_vl, hf]
 rw [hrr]
 clear hrr
 have ne1 : ¬ w.heap.size = w.heap.size + 1 + 1 := by omega
 have ne2 : ¬ w.heap.size + 1 + 1 = w.heap.size := by omega
 go_enter Tryz.func108, Tryz.ntmps108
 go_wp2_with (first
  | (go_at_call_of 105 (Value.agg #[Value.bool n1, Value.slice ao m1.length cap, Value.int IntKind.i64 e1]); refine (right_any ⟨n1, m1, e1⟩ ao cap _ (((hr.alloc _).alloc _).alloc _) la).mono ?_; rintro e w1 ⟨rfl, hb1⟩; obtain ⟨⟨c0, c1, c2, d0, d1, d2⟩, ⟨z0, z1, z2⟩, ⟨f0, f1, f2⟩, ho1⟩ := box3 hb1)
  | (go_at_call_of 105 (Value.agg #[Value.bool n2, Value.slice bo m2.length bcap, Value.int IntKind.i64 e2]); refine (right_any ⟨n2, m2, e2⟩ bo bcap _ (hs.below ho1) lb).mono ?_; rintro e w2 ⟨rfl, hb2⟩; obtain ⟨k0, k1, k2, j0, j1, j2⟩ := six_on (p := w.heap.size) (q := w.heap.size + 1) hb2 ⟨c0, c1, c2, d0, d1, d2⟩; obtain ⟨y0, y1, y2⟩ := three_on (p := w.heap.size + 1 + 1) hb2 ⟨z0, z1, z2⟩; obtain ⟨q0, q1, q2⟩ := marks_on (p := w.heap.size + 1 + 1) hb2 z0 ⟨f0, f1, f2⟩; have ho2 : Below w.heap.size w w2 := ho1.trans (hb2.mono ho1.size)))
 clear hb1 hb2 c0 c1 c2 d0 d1 d2 z0 z1 z2 f0 f1 f2 ho1
 go_region_held3 (fun w' => w'.cell? ⟨w.heap.size, 0, none⟩ = some (.bool n1) ∧ w'.cell? ⟨w.heap.size, 1, none⟩ = some (.slice ao m1.length cap) ∧ w'.cell? ⟨w.heap.size, 2, none⟩ = some (.int .i64 e1) ∧ w'.cell? ⟨w.heap.size + 1, 0, none⟩ = some (.bool n2) ∧ w'.cell? ⟨w.heap.size + 1, 1, none⟩ = some (.slice bo m2.length bcap) ∧ w'.cell? ⟨w.heap.size + 1, 2, none⟩ = some (.int .i64 e2)) (go_keep)
  (first
  | (go_at_call 113; refine (product_any m1 m2 ao bo cap bcap w2.drew (hr.below ho2).drew (hs.below ho2).drew la lb l1 l2).mono ?_; rintro e w3 ⟨n, f, rfl, hnn, hP, hV, hrow, hb3⟩; replace hb3 := undrew hb3; obtain ⟨p0, p1, p2, r0, r1, r2⟩ := six_on (p := w.heap.size) (q := w.heap.size + 1) hb3 ⟨k0, k1, k2, j0, j1, j2⟩; obtain ⟨s0, s1, s2⟩ := three_on (p := w.heap.size + 1 + 1) hb3 ⟨y0, y1, y2⟩; obtain ⟨t0, t1, t2⟩ := marks_on (p := w.heap.size + 1 + 1) hb3 y0 ⟨q0, q1, q2⟩; have ho3 : Below w.heap.size w w3 := ho2.trans (hb3.mono ho2.size))
  | (go_at_call 112; have hnm := norm_at (n1 != n2) (toL n f) (e1 + e2) n (toL_length _ _) (some ⟨w2.drew.heap.size, 0, none⟩) (m1.length + m2.length) w3 hrow (toL_lm hP) (tabW_below hT ho3) (by omega); rw [HN.out n f hV] at hnm; refine hnm.mono ?_; rintro e w4 ⟨ao', cap', rfl, hrow4, hfr4, hb4⟩; obtain ⟨p0, p1, p2, r0, r1, r2⟩ := six_on (p := w.heap.size) (q := w.heap.size + 1) hb4 ⟨p0, p1, p2, r0, r1, r2⟩; have hlt3 : w.heap.size + 1 + 1 < w3.heap.size := World.block_lt_of_cell? w3 _ s0; obtain ⟨t0, t1, t2⟩ := marks_on (p := w.heap.size + 1 + 1) hb4 s0 ⟨t0, t1, t2⟩; obtain ⟨s0, s1, s2⟩ := three_on (p := w.heap.size + 1 + 1) hb4 ⟨s0, s1, s2⟩; have ho4 : Below w.heap.size w w4 := ho3.trans (hb4.mono ho3.size); have hfr5 : Frs (w.heap.size + 3) ao' := hfr4.mono (by omega)))
 clear hnm HN hP hV hrow hb3 hb4 hfr4 k0 k1 k2 j0 j1 j2 y0 y1 y2 q0 q1 q2
 go_wp2
 exact bodyPost_ret (v := .tuple #[.agg #[.bool rn, .slice ao' rm.length cap', .int .i64 re], .int .i64 rk]) (by simp [results, Tryz.results108, go_sem, s0, s1, s2]) rfl ⟨ao', cap', rfl, ((hrow4.box hfr5 (by omega) _ _).box hfr5 (by omega) _ _).box hfr5 (by omega) _ _, hfr5.mono (by omega), ((ho4.setCell (by simp; omega) _).setCell (by simp; omega) _).setCell (by simp; omega) _⟩
set_option maxHeartbeats 1000000 in
theorem mul_arg (n1 n2 : Bool) (m1 m2 : List Nat) (e1 e2 : Int) (ao bo : Option Addr) (cap bcap : Nat) (w : World) (hr : LRow w ao m1) (hs : LRow w bo m2) (la : Lm m1) (lb : Lm m2)
  (h : rightB ⟨n1, m1, e1⟩ = false ∨ rightB ⟨n2, m2, e2⟩ = false) :
  Calls Tryz.prog 108 #[.agg #[.bool n1, .slice ao m1.length cap, .int .i64 e1], .agg #[.bool n2, .slice bo m2.length bcap, .int .i64 e2]] w (Gave w (dy0, 2)) := by
 cases ra : rightB ⟨n1, m1, e1⟩
 ·clear h
  go_enter Tryz.func108, Tryz.ntmps108
  go_wp2_with (first
   | (go_at_call_of 105 (Value.agg #[Value.bool n1, Value.slice ao m1.length cap, Value.int IntKind.i64 e1]); refine (right_any ⟨n1, m1, e1⟩ ao cap _ (((hr.alloc _).alloc _).alloc _) la).mono ?_; rintro e w1 ⟨rfl, hb1⟩; obtain ⟨⟨c0, c1, c2, d0, d1, d2⟩, ⟨z0, z1, z2⟩, ⟨f0, f1, f2⟩, ho1⟩ := box3 hb1))
  exact bodyPost_ret (v := .tuple #[.agg #[.bool false, .slice none 0 0, .int .i64 0], .int .i64 2]) (by simp [results, Tryz.results108, go_sem, z0, z1, z2]) rfl ⟨none, 0, rfl, LRow.nil _ _, Frs.none _, ((ho1.setCell (by simp; omega) _).setCell (by simp; omega) _).setCell (by simp; omega) _⟩
 ·have rb : rightB ⟨n2, m2, e2⟩ = false := by
   rcases h with h | h
   ·rw [ra] at h; cases h
   ·exact h
  clear h
  go_enter Tryz.func108, Tryz.ntmps108
  go_wp2_with (first
   | (go_at_call_of 105 (Value.agg #[Value.bool n1, Value.slice ao m1.length cap, Value.int IntKind.i64 e1]); refine (right_any ⟨n1, m1, e1⟩ ao cap _ (((hr.alloc _).alloc _).alloc _) la).mono ?_; rintro e w1 ⟨rfl, hb1⟩; obtain ⟨⟨c0, c1, c2, d0, d1, d2⟩, ⟨z0, z1, z2⟩, ⟨f0, f1, f2⟩, ho1⟩ := box3 hb1)
   | (go_at_call_of 105 (Value.agg #[Value.bool n2, Value.slice bo m2.length bcap, Value.int IntKind.i64 e2]); refine (right_any ⟨n2, m2, e2⟩ bo bcap _ (hs.below ho1) lb).mono ?_; rintro e w2 ⟨rfl, hb2⟩; obtain ⟨y0, y1, y2⟩ := three_on (p := w.heap.size + 1 + 1) hb2 ⟨z0, z1, z2⟩; obtain ⟨q0, q1, q2⟩ := marks_on (p := w.heap.size + 1 + 1) hb2 z0 ⟨f0, f1, f2⟩; have ho2 : Below w.heap.size w w2 := ho1.trans (hb2.mono ho1.size)))
  exact bodyPost_ret (v := .tuple #[.agg #[.bool false, .slice none 0 0, .int .i64 0], .int .i64 2]) (by simp [results, Tryz.results108, go_sem, y0, y1, y2]) rfl ⟨none, 0, rfl, LRow.nil _ _, Frs.none _, ((ho2.setCell (by simp; omega) _).setCell (by simp; omega) _).setCell (by simp; omega) _⟩
theorem mul_any (a b : Dy) (ao bo : Option Addr) (cap bcap : Nat) (w : World) (hr : LRow w ao a.mag) (hs : LRow w bo b.mag) (la : Lm a.mag) (lb : Lm b.mag) (hT : TabW w) :
  Calls Tryz.prog 108 #[.agg #[.bool a.neg, .slice ao a.mag.length cap, .int .i64 a.exp], .agg #[.bool b.neg, .slice bo b.mag.length bcap, .int .i64 b.exp]] w (Gave w (mulD a b)) := by
 by_cases h : rightB a = true ∧ rightB b = true
 ·exact mul_ok a.neg b.neg a.mag b.mag a.exp b.exp ao bo cap bcap w hr hs la lb hT h.1 h.2
 ·have e : mulD a b = (dy0, 2) := by
   unfold mulD; rw [if_neg]; simpa using h
  rw [e]
  refine mul_arg a.neg b.neg a.mag b.mag a.exp b.exp ao bo cap bcap w hr hs la lb ?_
  rcases Bool.eq_false_or_eq_true (rightB a) with h1 | h1
  ·rcases Bool.eq_false_or_eq_true (rightB b) with h2 | h2
   ·exact absurd ⟨h1, h2⟩ h
   ·exact Or.inr h2
  ·exact Or.inl h1
def atL (d : Dy) (low : Int) : Nat := vl d.mag * 2 ^ (d.exp - low).toNat
theorem sv_at (d : Dy) (low : Int) : sv d * 2 ^ (d.exp - low).toNat = if d.neg then -(atL d low : Int) else atL d low := by
 unfold sv atL
 rw [Int.natCast_mul, Int.natCast_pow]
 cases d.neg
 ·rfl
 ·simp only [if_true, Int.neg_mul]; rfl
theorem qd_at {d : Dy} {low : Int} (h1 : -65536 ≤ low) (h2 : low ≤ d.exp) : qd d = sv d * 2 ^ (d.exp - low).toNat * 2 ^ (low + 65536).toNat := by
 unfold qd
 rw [Int.mul_assoc, ← pow_add_int, show (d.exp + 65536).toNat = (d.exp - low).toNat + (low + 65536).toNat by omega]
theorem add_at {a b : Dy} (ha : rightB a = true) (hb : rightB b = true) {low : Int} (h1 : -65536 ≤ low) (h2 : low ≤ a.exp) (h3 : low ≤ b.exp) :
  addD a b = nrm (sv a * 2 ^ (a.exp - low).toNat + sv b * 2 ^ (b.exp - low).toNat) low := by
 unfold addD
 rw [ha, hb, qd_at h1 h2, qd_at h1 h3, ← Int.add_mul]
 simp only [Bool.and_self, if_true]
 have := nrm_shift (sv a * 2 ^ (a.exp - low).toNat + sv b * 2 ^ (b.exp - low).toNat) low (low + 65536).toNat
 rw [show low - ((low + 65536).toNat : Int) = -65536 by omega] at this
 exact this
theorem add_comm' (a b : Dy) : addD a b = addD b a := by unfold addD; rw [Bool.and_comm, Int.add_comm]
theorem add_like {a b : Dy} (ha : rightB a = true) (hb : rightB b = true) {low : Int} (h1 : -65536 ≤ low) (h2 : low ≤ a.exp) (h3 : low ≤ b.exp) (hn : a.neg = b.neg) {zs : List Nat} (hz : vl zs = atL a low + atL b low) :
  normD ⟨a.neg, zs, low⟩ = addD a b := by
 rw [add_at ha hb h1 h2 h3, sv_at, sv_at]
 unfold normD sv
 simp only [hz, Int.natCast_add, ← hn]
 cases a.neg
 ·rfl
 ·simp only [if_true]; rw [Int.neg_add]
theorem add_unlike {a b : Dy} (ha : rightB a = true) (hb : rightB b = true) {low : Int} (h1 : -65536 ≤ low) (h2 : low ≤ a.exp) (h3 : low ≤ b.exp) (hn : a.neg = !b.neg) {zs : List Nat} (hz : vl zs + atL b low = atL a low) :
  normD ⟨a.neg, zs, low⟩ = addD a b := by
 rw [add_at ha hb h1 h2 h3, sv_at, sv_at]
 unfold normD sv
 have hz' : (vl zs : Int) = (atL a low : Int) - (atL b low : Int) := by omega
 simp only [hz', hn]
 cases b.neg
 ·simp only [Bool.not_false, if_true, Bool.false_eq_true, if_false]; congr 1; omega
 ·simp only [Bool.not_true, if_true, Bool.false_eq_true, if_false]; congr 1
theorem add_zero_left {b : Dy} (hb : rightB b = true) (lb : Lm b.mag) : addD dy0 b = (b, 0) := by
 unfold addD
 rw [hb]
 simp only [show rightB dy0 = true from rfl, Bool.and_self, if_true]
 rw [show qd dy0 = 0 by unfold qd; rw [show sv dy0 = 0 from rfl, Int.zero_mul], Int.zero_add]
 exact qd_nrm lb hb
theorem right_nil {d : Dy} (h : rightB d = true) (h0 : d.mag.length = 0) : d = dy0 := by
 rcases right_cases h with h | ⟨h, _⟩
 ·exact h
 ·exact absurd h0 h
theorem right_ne {d : Dy} (h : rightB d = true) (h0 : d.mag.length ≠ 0) : vl d.mag ≠ 0 ∧ d.mag.getD 0 0 % 2 = 1 := by
 rcases right_cases h with rfl | ⟨h1, _, h3, h4, _⟩
 ·simp [dy0] at h0
 ·exact ⟨vl_ne_last h1 h4, h3⟩
theorem atL_bl {d : Dy} {low : Int} (h0 : vl d.mag ≠ 0) (h : low ≤ d.exp) : (bl (atL d low) : Int) = bl (vl d.mag) + d.exp - low := by
 unfold atL; rw [bl_mul_pow h0]; omega
theorem nrm_wide {m low : Int} (h1 : m.natAbs % 2 = 1) (h2 : 16384 < bl m.natAbs) : nrm m low = (dy0, 3) := by
 have hm : m ≠ 0 := by intro h; rw [h] at h1; simp at h1
 unfold nrm
 rw [if_neg hm, tz_odd h1, if_pos (Or.inl (by omega))]
theorem wide_core {A B E : Nat} (hA : A < 2 ^ E) (hB : 2 ^ (E + 64) ≤ B) : A < B ∧ ¬ A + B < 2 ^ E ∧ ¬ B - A < 2 ^ E := by
 rw [Nat.pow_add, p64] at hB
 have := Nat.two_pow_pos E
 generalize 2 ^ E = P at *
 omega
theorem add_wide {a b : Dy} (ha : rightB a = true) (hb : rightB b = true) (la : Lm a.mag) (lb : Lm b.mag) (na : a.mag.length ≠ 0) (nb : b.mag.length ≠ 0) {low : Int} (hl : low = min a.exp b.exp) (he : a.exp ≤ b.exp)
  (hw : 16448 < max ((bl (vl a.mag) : Int) + a.exp) ((bl (vl b.mag) : Int) + b.exp) - low) : addD a b = (dy0, 3) := by
 have xa := right_exp ha
 have xb := right_exp hb
 obtain ⟨a0, ao⟩ := right_ne ha na
 obtain ⟨b0, bo⟩ := right_ne hb nb
 have hba : bl (vl a.mag) ≤ 64 * 256 := bl_limbs la xa.2.2
 have hbb : bl (vl b.mag) ≤ 64 * 256 := bl_limbs lb xb.2.2
 have hlt : low < b.exp := by omega
 have hbB := atL_bl (d := b) (low := low) b0 (by omega)
 obtain ⟨E, hE⟩ : ∃ E, E = 16384 := ⟨_, rfl⟩
 have eA : atL a low = vl a.mag := by unfold atL; rw [show (a.exp - low).toNat = 0 by omega, Nat.pow_zero, Nat.mul_one]
 have hA : atL a low < 2 ^ E := by rw [eA]; exact bl_le_iff.1 (by omega)
 have hAo : atL a low % 2 = 1 := by rw [eA, vl_odd la na]; exact ao
 have hBe : atL b low % 2 = 0 := by
  unfold atL
  obtain ⟨d, hd⟩ : ∃ d, (b.exp - low).toNat = d + 1 := ⟨(b.exp - low).toNat - 1, by omega⟩
  rw [hd, Nat.pow_succ, ← Nat.mul_assoc, Nat.mul_mod_left]
 have hB0 : atL b low ≠ 0 := by intro h; rw [h, bl_zero] at hbB; omega
 have hB : 2 ^ (E + 64) ≤ atL b low := Nat.le_trans (Nat.pow_le_pow_right (by omega) (by omega)) (bl_spec hB0).1
 rw [add_at ha hb (show -65536 ≤ low by omega) (by omega) (by omega), sv_at, sv_at]
 generalize atL a low = A at *
 generalize atL b low = B at *
 obtain ⟨w1, w2, w3⟩ := wide_core hA hB
 have key : ∀ m : Int, (m.natAbs = A + B ∨ m.natAbs = B - A) → nrm m low = (dy0, 3) := by
  intro m hm
  apply nrm_wide
  ·rcases hm with h | h <;> omega
  ·apply Nat.lt_of_not_le
   intro hle
   have hlt := bl_le_iff.1 (show bl m.natAbs ≤ E by omega)
   rcases hm with h | h
   ·rw [h] at hlt; exact w2 hlt
   ·rw [h] at hlt; exact w3 hlt
 apply key
 clear hA hB w2 w3 key
 cases a.neg <;> cases b.neg <;> simp only [if_true, Bool.false_eq_true, if_false] <;> omega
end Go.Proofs.YtfipmopmpacdaaaGreatDoor
