/- What addTimes answers. -/
import Derived.Test.YtokfkooffbihcaaDoorDp
namespace Go.Proofs.YtokfkooffbihcaaDoor
open Go.RowKit

theorem add64_0 (x y : Int) (hx : 0 ≤ x) (hy : 0 ≤ y) (w : World) : (callFunc 46 #[.int .u64 x, .int .u64 y, .int .u64 0]).run Tryd.prog w =
    .ok (.value (.tuple #[.int .u64 ((x + y) % 18446744073709551616), .int .u64 ((x + y) / 18446744073709551616)])) w := by
  have := add64_run x y 0 hx hy (Int.le_refl 0) (by decide) w
  rw [Int.add_zero] at this
  exact this

/-- A row of n cells, those from off on replaced by a list. -/
def laidF (f : Nat → Nat) (off k : Nat) (out : List Nat) (j : Nat) : Nat := if off ≤ j ∧ j < off + k then out.getD (j - off) 0 else f j
theorem laidF_zero (f : Nat → Nat) (off : Nat) (out : List Nat) (j : Nat) : laidF f off 0 out j = f j := by unfold laidF; rw [if_neg (by omega)]
theorem laidF_snoc {f : Nat → Nat} {off k : Nat} {out : List Nat} (hl : out.length = k) (v j : Nat) : (if j = off + k then v else laidF f off k out j) = laidF f off (k + 1) (out ++ [v]) j := by
  unfold laidF
  by_cases h : j = off + k
  · rw [if_pos h, if_pos (by omega), h, show off + k - off = k by omega, List.getD_eq_getElem?_getD, List.getElem?_append_right (by omega)]
    simp [hl]
  · rw [if_neg h]
    by_cases h2 : off ≤ j ∧ j < off + k
    · rw [if_pos h2, if_pos (by omega), List.getD_eq_getElem?_getD, List.getD_eq_getElem?_getD, List.getElem?_append_left (by omega)]
    · rw [if_neg h2, if_neg (by omega)]
/-- The answer of addTimes: the limbs laid down, what is carried. -/
def GaveRow (w0 : World) (L : Nat) (f : Nat → Nat) (off : Nat) (t xs : List Nat) (b : Nat) (e : Ending) (w' : World) : Prop :=
  ∃ out c : _, e = .returned (.int .u64 ((c : Nat) : Int)) ∧ Rowed t xs b xs.length out c ∧ FRow w' w0.heap.size L (laidF f off xs.length out) ∧ Below w0.heap.size w0 w'

set_option maxHeartbeats 1000000 in
theorem addTimes_any (w0 w : World) (xs t : List Nat) (ao : Option Addr) (cap capT L off b : Nat) (f : Nat → Nat) (hr : LRow w0 ao xs) (hb : Below w0.heap.size w0 w) (hrow : FRow w w0.heap.size L f)
    (hL : Lm xs) (ht : Lm t) (htl : t.length = xs.length) (htf : ∀ j, j < xs.length → f (off + j) = t.getD j 0) (hoff : off + xs.length ≤ L) (hn : xs.length ≤ 100000) (hbv : b < 18446744073709551616) :
    Calls Tryd.prog 48 #[.slice (some ⟨w0.heap.size, off, none⟩) xs.length capT, .slice ao xs.length cap, .int .u64 b] w (GaveRow w0 L f off t xs b) := by
  have HF : Hid (∀ j, j < xs.length → f (off + j) = t.getD j 0) := htf
  clear htf
  go_enter Tryd.func48, Tryd.ntmps48
  go_wp2
  go_loopg [14, 7] xs.length (fun g i cv wr => ∃ (k : Nat) (out : List Nat) (c : Nat), k ≤ xs.length ∧ g = xs.length - k ∧ i = .int .i64 k ∧ cv = .int .u64 c ∧ Hid (Rowed t xs b k out c) ∧ FRow wr w0.heap.size L (laidF f off k out) ∧ Below w0.heap.size w0 wr)
  case atStart => exact ⟨0, [], 0, Nat.zero_le _, rfl, rfl, rfl, rowed_nil _ _ _, hrow.congr (fun j _ => (laidF_zero f off [] j).symm), hb⟩
  case round =>
    obtain ⟨k, out, c, hk, hg, rfl, rfl, hR, hrw, hbw⟩ := hrel
    clear hrow hb
    by_cases hlt : k < xs.length
    · have hrx := hr.below hbw
      rcases hrx with h | ⟨bx, ox, rfl, hc⟩
      · omega
      · have g1 := hc k hlt
        have kx := hL.getD k
        have ky := ht.getD k
        have kc : c < 18446744073709551616 := hR.out.2.2.1
        have g2 : wr.cell? ⟨w0.heap.size, off + k, none⟩ = some (.int .u64 ((laidF f off k out (off + k) : Nat) : Int)) := World.rowIs.cell hrw (by omega)
        have g3 := World.rowIs.frozen hrw (off + k)
        have e2 : laidF f off k out (off + k) = t.getD k 0 := by unfold laidF; rw [if_neg (by omega)]; exact HF.out k hlt
        rw [e2] at g2
        have HS : Hid (Rowed t xs b (k + 1) (out ++ [(xs.getD k 0 * b + t.getD k 0 + c) % 18446744073709551616]) ((xs.getD k 0 * b + t.getD k 0 + c) / 18446744073709551616)) := rowed_step hR.out ht hL hbv hlt (by omega)
        have hol : out.length = k := hR.out.2.1
        obtain ⟨x, hx⟩ : ∃ x, xs.getD k 0 = x := ⟨_, rfl⟩
        obtain ⟨y, hy⟩ : ∃ y, t.getD k 0 = y := ⟨_, rfl⟩
        rw [hx, hy] at HS
        rw [hx] at g1 kx
        rw [hy] at g2 ky
        have hm := mul64_any (x : Int) (b : Int) (by omega) (by omega) (by omega) (by omega) wr
        have p0 : 0 ≤ (x : Int) * b := Int.mul_nonneg (by omega) (by omega)
        have ev : ((((x * b + y + c) % 18446744073709551616 : Nat)) : Int) = ((x : Int) * b + y + c) % 18446744073709551616 := by rw [Int.natCast_emod, Int.natCast_add, Int.natCast_add, Int.natCast_mul]; rfl
        have ec : ((((x * b + y + c) / 18446744073709551616 : Nat)) : Int) = ((x : Int) * b + y + c) / 18446744073709551616 := by rw [Int.natCast_ediv, Int.natCast_add, Int.natCast_add, Int.natCast_mul]; rfl
        have hset := hrw.set (off + k) ((x * b + y + c) % 18446744073709551616)
        rw [ev] at hset
        have p1 : (x : Int) * b ≤ 18446744073709551615 * 18446744073709551615 := Int.mul_le_mul (by omega) (by omega) (by omega) (by omega)
        generalize (x : Int) * (b : Int) = p at *
        have s2 : p / 18446744073709551616 + (p % 18446744073709551616 + y) / 18446744073709551616 + ((p + y) % 18446744073709551616 + c) / 18446744073709551616 = (p + y + c) / 18446744073709551616 := by omega
        have HV2 : Hid (((x * b + y + c) / 18446744073709551616 : Nat) = p / 18446744073709551616 + (p % 18446744073709551616 + y) / 18446744073709551616 + ((p + y) % 18446744073709551616 + c) / 18446744073709551616) := ec.trans s2.symm
        have ha1 := fun w => add64_0 (p % 18446744073709551616) (y : Int) (by omega) (by omega) w
        have ha2 := fun w => add64_0 ((p + y) % 18446744073709551616) (c : Int) (by omega) (by omega) w
        have hbs := fun v => hbw.setCell (p := ⟨w0.heap.size, off + k, none⟩) (Nat.le_refl _) (.int .u64 v)
        clear hc hr hx hy hrw hbw s2 ev ec hR HF e2
        go_wp2_with (go_at_call 60; refine hm.mono ?_; rintro e w' ⟨rfl, hww⟩; subst hww)
        go_roundg (xs.length - (k + 1))
        case measure => omega
        case rel =>
          refine ⟨k + 1, _, _, by omega, rfl, by go_num, ?_, HS, hset.congr (fun j _ => laidF_snoc hol _ j), hbs _⟩
          rw [HV2.out]
    · have hkk : k = xs.length := by omega
      subst hkk
      go_wp2
      go_ret
      exact ⟨out, c, rfl, hR.out, hrw, hbw⟩
end Go.Proofs.YtokfkooffbihcaaDoor
