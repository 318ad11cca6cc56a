/- minus and equal of layer 13's laws. -/
import Derived.Test.YtclldmdhpojciaaSol14
import Derived.Test.YtclldmdhpojciaaSq0
namespace Go.Proofs.Ytclldmdhpojciaa
open Go.RowKit

theorem negL_len (xs : List Nat) : (xs.map negW).length = xs.length := by simp
theorem negL_at {xs : List Nat} {i : Nat} (h : i < xs.length) : (xs.map negW).getD i 0 = negW (xs.getD i 0) := by
  rw [getD_at (by simpa using h), getD_at h]; simp
theorem negL_fw {xs : List Nat} (h : FW xs) : FW (xs.map negW) := fun x hx => by
  obtain ⟨y, hy, rfl⟩ := List.mem_map.1 hx
  exact negW_lt (h y hy)
theorem negL_snoc {xs : List Nat} {k : Nat} (h : k < xs.length) : (xs.take (k + 1)).map negW = (xs.take k).map negW ++ [negW (xs.getD k 0)] := by
  rw [List.take_succ_eq_append_getElem h, List.map_append, getD_at h]; rfl
/-- A list handed back. -/
def GaveM (w : World) (ys : List Nat) (e : Ending) (w' : World) : Prop := ∃ bo bc, e = .returned (.slice bo ys.length bc) ∧ GRow w' bo ys ∧ Below w.heap.size w w'
set_option maxHeartbeats 2000000 in
theorem minus13_any (xs : List Nat) (ao : Option Addr) (cap : Nat) (w : World) (hr : GRow w ao xs) (hn : xs.length ≤ 2304) :
    Calls Try.prog 32 #[.slice ao xs.length cap] w fun e w' => GaveM w (xs.map negW) e w' := by
  obtain ⟨i0, hi, hz0, hz1, hz2⟩ := info_parts Try.infoF
  have hu : ∀ b, Op.unary .neg (.float .f64 b) = pure (.float .f64 (negW b)) := fun _ => rfl
  go_enter Try.func32, Try.ntmps32
  go_wp2
  go_loopg [3, 4] xs.length (fun g v i wr => ∃ (k : Nat) (rs : List Nat), k ≤ xs.length ∧ g = xs.length - k ∧ i = .int .i64 k ∧ Hid (rs = (xs.take k).map negW) ∧ wr.ownsRow w.heap.size 29 1 v k (fv rs) ∧ Below w.heap.size w wr)
  case atStart => exact ⟨0, [], Nat.zero_le _, rfl, rfl, rfl, World.ownsRow_nil _ _ _ _, Below.refl _ _⟩
  case round =>
    obtain ⟨k, rs, hk, hg, rfl, hrl, hown, hb⟩ := hrel
    have HG : Hid (gk = xs.length - k) := hg
    clear hg
    have hbs := hb.size
    by_cases hlt : k < xs.length
    · rcases hr.below hb with h | ⟨b, off, rfl, hc⟩
      · omega
      have g1 := hc k hlt
      have HS : Hid (rs ++ [negW (xs.getD k 0)] = (xs.take (k + 1)).map negW) := (show _ = _ by rw [negL_snoc hlt, hrl.out])
      generalize xs.getD k 0 = x at *
      clear hc
      have i1 : (k : Int) < (xs.length : Int) := by omega
      have hO : ∀ o, (World.alloc wr o).ownsRow w.heap.size 29 1 u3 k (fv rs) := fun o => World.ownsRow.alloc hown o
      have HZ : ∀ o, w.heap.size ≤ (World.alloc wr o).heap.size := fun o => by simp; omega
      have hfin : ∀ (v' : Value) (w1 : World), w1.ownsRow w.heap.size 29 1 v' (k + 1) (fv rs ++ [.float .f64 (negW x)]) → w1.ownsRow w.heap.size 29 1 v' (k + 1) (fv (rs ++ [negW x])) := fun v' w1 h => by rw [fv_snoc]; exact h
      have hbel : ∀ (o : Obj) (w1 : World), (World.alloc wr o).grownBy w1 u3.ownBlock → Below w.heap.size w w1 := fun o w1 hg => (Below.alloc hb hbs _).grown hg (HZ _) (fun k hk => (hown.lt k hk).1)
      go_wp2_with (at_builtin; refine wpList_append_own _ rfl _ _ 22 rfl w.heap.size 29 i0 (.float .f64 0) 1 8 Try.underlying22 hi hz0 hz1 hz2 rfl (by decide) _ _ _ rfl (hO _) _ 1 1 [.float .f64 (negW x)] rfl rfl (World.news_of_block (cs := #[.float .f64 (negW x)]) (t := 29) (fr := (0, 0)) (heap_alloc_new _ _)) (by simp [Value.oneCell']) (by unfold maxLen; omega) (by omega) (HZ _) ?_; intro v' w1 hown1 hgrow _)
      have hown2 := hfin _ _ hown1
      have hb2 := hbel _ _ hgrow
      clear hown1 hgrow hown hb hfin hbel g1
      go_wp2
      go_roundg (xs.length - (k + 1))
      case measure => rw [HG.out]; omega
      case rel => exact ⟨k + 1, rs ++ [negW x], by omega, rfl, by go_num, HS, hown2, hb2⟩
    · have ek : k = xs.length := by omega
      have i1 : ¬ (k : Int) < (xs.length : Int) := by omega
      have er : rs = xs.map negW := by rw [hrl.out, ek, List.take_length]
      have hl : k = (xs.map negW).length := by rw [negL_len, ek]
      have hown' : wr.ownsRow w.heap.size 29 1 u3 (xs.map negW).length (fv (xs.map negW)) := by rw [← er] at hl ⊢; rw [← hl]; exact hown
      obtain ⟨bo, bc, rfl, q1, q2, q3⟩ := owned_grow hown'
      clear hown' hown hrl er ek hl
      rw [negL_len]
      go_wp2
      exact bodyPost_ret (v := .slice bo xs.length bc) (by simp [results, Try.results32, go_sem]) rfl ⟨bo, bc, by rw [negL_len], q1, hb⟩
/-- Equal as numbers, or both no number. -/
def EqN (x y : Nat) : Prop := (FloatKind.f64.format.order x y != some .eq) = false ∨ ((FloatKind.f64.format.order x y != some .eq) = true ∧ (FloatKind.f64.format.order x x == some .eq) = false ∧ (FloatKind.f64.format.order y y == some .eq) = false)
set_option maxHeartbeats 2000000 in
theorem equal13_any (xs ys : List Nat) (ao bo : Option Addr) (cap cap2 : Nat) (w : World) (hr : GRow w ao xs) (hs : GRow w bo ys) (hl : ys.length = xs.length) (hn : xs.length ≤ 2304) (h : ∀ i, i < xs.length → EqN (xs.getD i 0) (ys.getD i 0)) :
    Calls Try.prog 30 #[.slice ao xs.length cap, .slice bo ys.length cap2] w fun e w' => e = .returned (.bool true) ∧ Below w.heap.size w w' := by
  have HL : Hid (ys.length = xs.length) := hl
  have e0 : ((xs.length : Int) != (ys.length : Int)) = false := by simp; omega
  clear hl
  go_enter Try.func30, Try.ntmps30
  go_wp2
  go_loopg [5] xs.length (fun g s5 wr => ∃ k : Nat, k ≤ xs.length ∧ g = xs.length - k ∧ s5 = .int .i64 k ∧ Hid (Below w.heap.size w wr))
  case atStart => exact ⟨0, Nat.zero_le _, rfl, rfl, Below.refl _ _⟩
  case round =>
    obtain ⟨k, hk, hg, rfl, hb⟩ := hrel
    have HG : Hid (gk = xs.length - k) := hg
    clear hg
    by_cases hlt : k < xs.length
    · have hlt2 : k < ys.length := by rw [HL.out]; exact hlt
      rcases hr.below hb.out with h' | ⟨b, off, rfl, hc⟩
      · omega
      rcases hs.below hb.out with h' | ⟨b2, off2, rfl, hd⟩
      · omega
      have g1 := hc k hlt
      have g2 := hd k hlt2
      have hE := h k hlt
      have i1 : (k : Int) < (xs.length : Int) := by omega
      have i2 : (k : Int) < (ys.length : Int) := by omega
      generalize xs.getD k 0 = x at *
      generalize ys.getD k 0 = y at *
      clear hc hd
      rcases hE with f1 | ⟨f1, f2, f3⟩
      · go_wp2
        go_quiet (fail)
        go_wp2
        go_roundg (xs.length - (k + 1))
        case measure => rw [HG.out]; omega
        case rel => exact ⟨k + 1, by omega, rfl, by go_num, below_drewN hb.out _⟩
      · go_wp2
        go_quiet (fail)
        go_wp2
        go_roundg (xs.length - (k + 1))
        case measure => rw [HG.out]; omega
        case rel => exact ⟨k + 1, by omega, rfl, by go_num, below_drewN hb.out _⟩
    · have i1 : ¬ (k : Int) < (xs.length : Int) := by omega
      go_wp2
      go_ret
      exact ⟨rfl, hb.out⟩
/-- What comes of a list with its signs turned is equal to the opposite of what comes of the list. -/
theorem EqN_op {o o' : Option Nat} {r r' : Nat} (h : OpO o o') (hr : NR o r) (hr' : NR o' r') (hp : PO o) (hp' : PO o') : EqN r' (negW r) := by
  have w1 : r < 18446744073709551616 := hr.1
  have w2 : r' < 18446744073709551616 := hr'.1
  have w3 := negW_lt w1
  have nn := (neg_rung w1)
  unfold EqN
  show (Ieee.double.order r' (negW r) != some .eq) = false ∨ ((Ieee.double.order r' (negW r) != some .eq) = true ∧ (Ieee.double.order r' r' == some .eq) = false ∧ (Ieee.double.order (negW r) (negW r) == some .eq) = false)
  rw [order_eq r' (negW r) w2 w3, order_eq r' r' w2 w2, order_eq (negW r) (negW r) w3 w3]
  cases o <;> cases o' <;> try exact h.elim
  · have n1 : nanB r = true := hr.2
    have n2 : nanB r' = true := hr'.2
    have n3 : nanB (negW r) = true := by unfold nanB at n1 ⊢; rw [nn.1]; exact n1
    rw [n2, n3]
    right
    exact ⟨rfl, rfl, rfl⟩
  · rename_i a b
    have e1 : r = a := hr.2
    have e2 : r' = b := hr'.2
    subst e1 e2
    have n1 := hp r rfl
    have n2 := hp' r' rfl
    have n3 : nanB (negW r) = false := by unfold nanB at n1 ⊢; rw [nn.1]; exact n1
    obtain ⟨_, _, h3, h4⟩ := h
    left
    have hpl : place r' = place (negW r) := by
      unfold place
      rw [h3, nn.1, nn.2]
      rcases h4 with g | g
      · rw [g]; cases sgn r' <;> cases sgn r <;> rfl
      · rw [g]
    have hc : compare (place r') (place (negW r)) = .eq := by rw [hpl, cmp_int, if_neg (Int.lt_irrefl _), if_pos rfl]
    rw [n2, n3, hc]
    rfl
theorem OpO_neg {x : Nat} (hx : x < 18446744073709551616) : OpO (toO x) (toO (negW x)) := by
  have nn := (neg_rung hx)
  have e : nanB (negW x) = nanB x := by unfold nanB; rw [nn.1]
  unfold toO
  rw [e]
  cases nanB x
  · exact ⟨hx, negW_lt hx, nn.1, Or.inr nn.2⟩
  · exact trivial
end Go.Proofs.Ytclldmdhpojciaa
