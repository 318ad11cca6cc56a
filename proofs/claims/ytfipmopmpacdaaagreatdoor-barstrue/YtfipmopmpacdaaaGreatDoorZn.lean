/- What the reference's NatBits, NatCmp answer. -/
import Derived.Test.YtfipmopmpacdaaaGreatDoorZa
import Derived.Test.YtfipmopmpacdaaaGreatDoorV3
import Derived.Deep.RegionHeld3
import Derived.Deep.AppendLies
import Derived.Laws.OwnMore
import Derived.Deep.QuietTactic
import Derived.BigQuiet
namespace Go.Proofs.YtfipmopmpacdaaaGreatDoor
open Go.RowKit
def NS (w : World) (ao : Option Addr) (cap : Nat) (xs : List Nat) : Prop := LRow w ao xs ∧ (ao = none → cap = 0 ∧ xs.length = 0) ∧ xs.length ≤ cap
theorem NS.below {w w' : World} {ao : Option Addr} {cap : Nat} {xs : List Nat} (h : NS w ao cap xs) (hb : Below w.heap.size w w') : NS w' ao cap xs := ⟨h.1.below hb, h.2⟩
theorem NS.nil (w : World) : NS w none 0 [] := ⟨LRow.nil _ _, fun _ => ⟨rfl, rfl⟩, by simp⟩
theorem LRow.take {w : World} {ao : Option Addr} {xs : List Nat} (h : LRow w ao xs) (n : Nat) : LRow w ao (xs.take n) := by
 rcases h with h | ⟨b, off, rfl, hc⟩
 ·exact Or.inl (by rw [List.length_take]; omega)
 ·refine Or.inr ⟨b, off, rfl, fun j hj => ?_⟩
  rw [List.length_take] at hj
  rw [hc j (by omega), List.getD_eq_getElem?_getD, List.getD_eq_getElem?_getD, List.getElem?_take, if_pos (by omega)]
theorem NS.take {w : World} {ao : Option Addr} {cap : Nat} {xs : List Nat} (h : NS w ao cap xs) (n : Nat) : NS w ao cap (xs.take n) :=
 ⟨h.1.take n, fun e => ⟨(h.2.1 e).1, by rw [List.length_take, (h.2.1 e).2]; omega⟩, by rw [List.length_take]; have := h.2.2; omega⟩
def GaveN (w : World) (xs : List Nat) (e : Ending) (w' : World) : Prop := ∃ ao cap, e = .returned (.slice ao xs.length cap) ∧ NS w' ao cap xs ∧ Frs w.heap.size ao ∧ Below w.heap.size w w'
theorem owned_ns {w : World} {base : Nat} {t : TypeId} {v : Value} {xs : List Nat} (h : w.ownsRow base t 1 v xs.length (uv xs)) : ∃ ao cap, v = .slice ao xs.length cap ∧ NS w ao cap xs ∧ Frs base ao := by
 obtain ⟨ao, cap, e, h1, h2, h3⟩ := owned_lrow h
 refine ⟨ao, cap, e, ⟨h1, fun hn => ⟨h2 hn, ?_⟩, ?_⟩, h3⟩
 ·rcases h1 with h1 | ⟨b, off, h4, _⟩
  ·exact h1
  ·rw [hn] at h4; cases h4
 ·rcases h.2 with ⟨e2, hn⟩ | ⟨g, c, cur, e2, _, _, hc, _⟩
  ·omega
  ·rw [e] at e2; cases e2; exact hc
theorem quietB {w : World} (n : Nat) : Below w.heap.size w (w.drewN n) := ⟨rfl, rfl, rfl, Nat.le_refl _, fun _ _ => rfl⟩
set_option maxHeartbeats 1000000 in
theorem low_any (xs : List Nat) (ao : Option Addr) (cap : Nat) (w : World) (hr : NS w ao cap xs) (hL : Hm xs) (hn : xs.length ≤ 70368744177664) :
  Calls Tryz.prog 79 #[.slice ao xs.length cap] w fun e w' => e = .returned (.slice ao (lh (vh xs)).length cap) ∧ NS w ao cap (lh (vh xs)) ∧ w' = w := by
 obtain ⟨hr1, hr2, hr3⟩ := id hr
 go_enter Tryz.func79, Tryz.ntmps79
 go_wp2
 go_loopg [3] xs.length (fun g i wr => ∃ k : Nat, k ≤ xs.length ∧ g = k ∧ i = .int .i64 k ∧ Hid (∀ j, k ≤ j → j < xs.length → xs.getD j 0 = 0) ∧ wr = w)
 case atStart => exact ⟨xs.length, Nat.le_refl _, rfl, rfl, fun j h1 h2 => by omega, rfl⟩
 case round =>
  obtain ⟨k, hk, hg, rfl, hz, rfl⟩ := hrel
  by_cases h0 : k = 0
  ·subst h0
   have HE : Hid ([] = lh (vh xs)) := (show [] = lh (vh xs) by rw [← lh_take hL (n := 0) (by omega) (fun j h1 h2 => hz.out j h1 h2) (Or.inl rfl)]; rfl)
   go_wp2
   go_ret
   rw [← HE.out]
   exact ⟨rfl, hr.take 0, rfl⟩
  ·rcases hr1 with h | ⟨b, off, rfl, hc⟩
   ·omega
   ·obtain ⟨j, rfl⟩ : ∃ j, k = j + 1 := ⟨k - 1, by omega⟩
    have g := hc j (by omega)
    obtain ⟨x, hx⟩ : ∃ x, xs.getD j 0 = x := ⟨_, rfl⟩
    have HX : Hid (xs.getD j 0 = x) := hx
    rw [hx] at g
    clear hc hx
    have e1 : ((j + 1 : Nat) : Int) - 1 = (j : Int) := by omega
    by_cases hx0 : x = 0
    ·subst hx0
     go_wp2
     go_roundg j
     case measure => omega
     case rel => exact ⟨j, by omega, rfl, by go_num, fun i h1 h2 => by
      by_cases e : i = j
      ·rw [e]; exact HX.out
      ·exact hz.out i (by omega) h2, rfl⟩
    ·have h3 : ((x : Int) == 0) = false := by simp; omega
     have HE : Hid (xs.take (j + 1) = lh (vh xs)) := lh_take hL (by omega) (fun i h1 h2 => hz.out i h1 h2) (Or.inr (by show xs.getD j 0 ≠ 0; rw [HX.out]; exact hx0))
     have hl : (xs.take (j + 1)).length = j + 1 := by rw [List.length_take]; omega
     go_wp2
     go_ret
     rw [← HE.out, hl]
     exact ⟨rfl, hr.take _, rfl⟩
theorem news_of {w : World} {ad : Addr} {xs : List Nat} (hr : LRow w (some ad) xs) (k : Nat) : ∀ j u, (uv (xs.take k))[j]? = some u → w.cell? (ad.add j) = some u := by
 intro j u hu
 obtain ⟨hj, rfl⟩ := uv_get hu
 rcases hr.take k with h | ⟨b, off, e, hc⟩
 ·omega
 ·cases e
  have g := hc j hj
  simp only [Addr.add]
  split
  ·rename_i h; subst h; exact g
  ·exact g
theorem trim_fin {w w1 : World} {ys zs : List Nat} {k : Nat} {v : Value} (hl : ys.length = k) (e : ys = zs) (hown : w1.ownsRow w.heap.size 92 1 v (0 + k) ([] ++ uv ys)) (hgrow : w.grownBy w1 none) : GaveN w zs (.returned v) w1 := by
 subst e
 rw [Nat.zero_add, List.nil_append, ← hl] at hown
 obtain ⟨ao', cap', rfl, h1, h2⟩ := owned_ns hown
 exact ⟨ao', cap', rfl, h1, h2, (Below.refl _ _).grown hgrow (Nat.le_refl _) (fun k hk => by cases hk)⟩
set_option maxHeartbeats 1000000 in
theorem natTrim_any (xs : List Nat) (ao : Option Addr) (cap : Nat) (w : World) (hr : NS w ao cap xs) (hL : Lm xs) (hn : xs.length ≤ 17592186044416) :
  Calls Tryz.prog 59 #[.slice ao xs.length cap] w (GaveN w (lo (vl xs))) := by
 obtain ⟨i0, hi, hz0, hz1, hz2⟩ := info_parts Tryz.infoU
 obtain ⟨hr1, hr2, hr3⟩ := id hr
 cases ao with
 | none =>
  obtain ⟨rfl, hl⟩ := hr2 rfl
  have hx : xs = [] := List.eq_nil_of_length_eq_zero hl
  subst hx
  go_enter Tryz.func59, Tryz.ntmps59
  go_wp2
  go_loopg [3] 0 (fun g i wr => i = .int .i64 0 ∧ wr = w)
  case atStart => exact ⟨rfl, rfl⟩
  case round =>
   obtain ⟨rfl, rfl⟩ := hrel
   go_wp2_with (at_builtin; refine wpList_append_own_none rfl _ _ 47 rfl wr.heap.size 92 i0 1 Tryz.underlying47 hi _ 0 [] rfl (World.ownsRow_nil _ _ _ _) rfl ?_)
   go_ret
   exact ⟨none, 0, rfl, NS.nil _, Frs.none _, Below.refl _ _⟩
 | some ad =>
  go_enter Tryz.func59, Tryz.ntmps59
  go_wp2
  go_loopg [3] xs.length (fun g i wr => ∃ k : Nat, k ≤ xs.length ∧ g = k ∧ i = .int .i64 k ∧ Hid (∀ j, k ≤ j → j < xs.length → xs.getD j 0 = 0) ∧ wr = w)
  case atStart => exact ⟨xs.length, Nat.le_refl _, rfl, rfl, fun j h1 h2 => by omega, rfl⟩
  case round =>
   obtain ⟨k, hk, hg, rfl, hz, rfl⟩ := hrel
   have hkl : (xs.take k).length = k := by rw [List.length_take]; omega
   have hnews := news_of hr1 k
   by_cases h0 : k = 0
   ·subst h0
    have HE : Hid (xs.take 0 = lo (vl xs)) := lo_take hL (n := 0) (by omega) (fun j h1 h2 => hz.out j h1 h2) (Or.inl rfl)
    go_wp2_with (at_builtin; refine wpList_append_own _ rfl _ _ 47 rfl wr.heap.size 92 i0 (.int .u64 0) 1 8 Tryz.underlying47 hi hz0 hz1 hz2 rfl (by decide) _ 0 [] rfl (World.ownsRow_nil _ _ _ _) ad 0 cap (uv (xs.take 0)) rfl (by rw [uv_length, List.length_take]; omega) hnews uv_one (by unfold maxLen; omega) (by omega) (Nat.le_refl _) ?_; intro v' w1 hown hgrow _)
    have hgrow' : wr.grownBy w1 none := hgrow
    have F := trim_fin hkl HE.out hown hgrow'
    clear hown hgrow hgrow' hnews
    go_ret
    exact F
   ·obtain ⟨j, rfl⟩ : ∃ j, k = j + 1 := ⟨k - 1, by omega⟩
    rcases hr1 with h | ⟨b, off, hb, hc⟩
    ·omega
    ·cases hb
     have g := hc j (by omega)
     obtain ⟨x, hx⟩ : ∃ x, xs.getD j 0 = x := ⟨_, rfl⟩
     have HX : Hid (xs.getD j 0 = x) := hx
     rw [hx] at g
     clear hc hx
     have e1 : ((j + 1 : Nat) : Int) - 1 = (j : Int) := by omega
     by_cases hx0 : x = 0
     ·subst hx0
      clear hnews hkl
      go_wp2
      go_roundg j
      case measure => omega
      case rel => exact ⟨j, by omega, rfl, by go_num, fun i h1 h2 => by
       by_cases e : i = j
       ·rw [e]; exact HX.out
       ·exact hz.out i (by omega) h2, rfl⟩
     ·have h3 : ((x : Int) == 0) = false := by simp; omega
      have HE : Hid (xs.take (j + 1) = lo (vl xs)) := lo_take hL (by omega) (fun i h1 h2 => hz.out i h1 h2) (Or.inr (by show xs.getD j 0 ≠ 0; rw [HX.out]; exact hx0))
      go_wp2_with (at_builtin; refine wpList_append_own _ rfl _ _ 47 rfl wr.heap.size 92 i0 (.int .u64 0) 1 8 Tryz.underlying47 hi hz0 hz1 hz2 rfl (by decide) _ 0 [] rfl (World.ownsRow_nil _ _ _ _) _ (j + 1) cap (uv (xs.take (j + 1))) rfl (by rw [uv_length, List.length_take]; omega) hnews uv_one (by unfold maxLen; omega) (by omega) (Nat.le_refl _) ?_; intro v' w1 hown hgrow _)
      have hgrow' : wr.grownBy w1 none := hgrow
      have F := trim_fin hkl HE.out hown hgrow'
      clear hown hgrow hgrow' hnews
      go_ret
      exact F
theorem uv_append (xs ys : List Nat) : uv (xs ++ ys) = uv xs ++ uv ys := by unfold uv; rw [List.map_append]
theorem own_block {w : World} {base : Nat} {e : TypeId} {v : Value} {n : Nat} {xs : List Value} {b : Nat} (h : w.ownsRow base e 1 v n xs) (hb : b < base) : v.ownBlock ≠ some b := fun h2 => by
 have := (h.lt b h2).1; omega
set_option maxHeartbeats 2000000 in
theorem halves_any (xs : List Nat) (ao : Option Addr) (cap : Nat) (w : World) (hr : NS w ao cap xs) (hL : Lm xs) (hn : xs.length ≤ 4398046511104) :
    Calls Tryz.prog 62 #[.slice ao xs.length cap] w (GaveN w (lh (vl xs))) := by
  obtain ⟨i0, hi, hz0, hz1, hz2⟩ := info_parts Tryz.infoU
  go_enter Tryz.func62, Tryz.ntmps62
  go_wp2
  go_loopg [4, 3] xs.length (fun g i v wr => ∃ k : Nat, k ≤ xs.length ∧ g = xs.length - k ∧ i = .int .i64 k ∧ wr.ownsRow w.heap.size 92 1 v (hx (xs.take k)).length (uv (hx (xs.take k))) ∧ Below w.heap.size w wr)
  case atStart => exact ⟨0, Nat.zero_le _, rfl, rfl, World.ownsRow_nil _ _ _ _, Below.refl _ _⟩
  case round =>
    obtain ⟨k, hk, hg, rfl, hown, hb⟩ := hrel
    have hrr := hr.below hb
    by_cases hlt : k < xs.length
    · rcases hrr.1 with h | ⟨b, off, rfl, hc⟩
      · omega
      · have g := hc k hlt
        have gl := World.block_lt_of_cell? w _ (by rcases hr.1 with h | ⟨b2, off2, e, hc2⟩; · omega
                                                   · cases e; exact hc2 k hlt)
        obtain ⟨x, hx0⟩ : ∃ x, xs.getD k 0 = x := ⟨_, rfl⟩
        rw [hx0] at g
        have HT : Hid (hx (xs.take (k + 1)) = hx (xs.take k) ++ [x % 4294967296, x / 4294967296]) := (show _ = _ by rw [hx_take hlt, hx0])
        have hlen : (hx (xs.take k)).length = 2 * k := by rw [hx_length, List.length_take]; omega
        have hi1 : (0 : Int) ≤ (k : Int) := by omega
        have hi2 : (k : Int) < (xs.length : Int) := by omega
        have hne := own_block hown gl
        have hbs := hb.size
        rw [hlen] at hown
        have hxl : x < 18446744073709551616 := by rw [← hx0]; exact hL.getD k
        obtain ⟨y, hy⟩ : ∃ y, x % 4294967296 = y := ⟨_, rfl⟩
        obtain ⟨z, hz⟩ : ∃ z, x / 4294967296 = z := ⟨_, rfl⟩
        rw [hy, hz] at HT
        have e1 : (x : Int).tmod 4294967296 = (y : Int) := by rw [Int.tmod_eq_emod_of_nonneg (by omega)]; omega
        have e2 : IntKind.u64.wrap ((x : Int) / 4294967296) = (z : Int) := by rw [IntKind.wrap_u64]; omega
        clear hc hx0 hrr hr hy hz
        go_wp2_with fail
        go_region_held3 (fun w' => w'.cell? ⟨b, off + k, none⟩ = some (.int .u64 (x : Int)))
          (first | go_keep | (rw [hgrow.cell_far _ (by simp; omega) (Ne.symm hne)]; assumption))
          ((refine step_append_lies _ (by rfl) _ _ _ (by rfl) w.heap.size 92 i0 (.int .u64 0) 1 8 Tryz.underlying47 hi hz0 hz1 hz2 rfl (by omega) _ _ _ (by rfl) ((hown.alloc _).drew) ⟨wr.heap.size, 0, none⟩ 2 2 [.int .u64 (y : Int), .int .u64 (z : Int)] (by rfl) (by rfl) (World.news_of_block (cs := #[.int .u64 (y : Int), .int .u64 (z : Int)]) (t := 92) (fr := (0, 0)) (heap_alloc_new wr _)) (by simp [Value.oneCell']) (by omega) (by unfold maxLen; omega) (by omega) (by simp; omega) (wr.heap.size + 1) (by simp) ?_; intro gg cap1 w1 hown1 hgrow hat hlt1))
        have hown2 : w1.ownsRow w.heap.size 92 1 (.slice (some ⟨gg, 0, none⟩) (2 * k + 2) cap1) (hx (xs.take (k + 1))).length (uv (hx (xs.take (k + 1)))) := by
          rw [HT.out, List.length_append, hlen, uv_append]; exact hown1
        have hb2 : Below w.heap.size w w1 := (hb.alloc hb.size _).drew.grown hgrow (by simp; omega) (fun k hk => (hown.lt k hk).1)
        clear hown1 hgrow hown hb hat hlt1 hne HT
        go_wp2
        go_roundg (xs.length - (k + 1))
        case measure => omega
        case rel => exact ⟨k + 1, by omega, rfl, by go_num, hown2, hb2⟩
    · have hkk : k = xs.length := by omega
      subst hkk
      rw [List.take_length] at hown
      obtain ⟨ao', cap', rfl, h1, h2⟩ := owned_ns hown
      have hlen : (hx xs).length ≤ 70368744177664 := by rw [hx_length]; omega
      have HV : Hid (vh (hx xs) = vl xs) := vh_hx hL
      have hm := hx_hm hL
      go_wp2_with (go_at_call 79; refine (low_any _ _ _ _ h1 hm hlen).mono ?_; rintro e w' ⟨rfl, h3, rfl⟩)
      rw [HV.out] at *
      go_ret
      exact ⟨_, _, rfl, h3, h2, hb⟩
set_option maxHeartbeats 400000 in
theorem digit_any (xs : List Nat) (ao : Option Addr) (cap : Nat) (i : Nat) (w : World) (hr : LRow w ao xs) :
  Calls Tryz.prog 65 #[.slice ao xs.length cap, .int .i64 i] w fun e w' => e = .returned (.int .u64 (xs.getD i 0 : Nat)) ∧ w' = w := by
 by_cases h1 : i < xs.length
 ·rcases hr with h | ⟨b, off, rfl, hc⟩
  ·omega
  ·have g := hc i h1
   clear hc
   have h2 : (i : Int) < (xs.length : Int) := by omega
   obtain ⟨x, hx⟩ : ∃ x, xs.getD i 0 = x := ⟨_, rfl⟩
   rw [hx] at g ⊢
   clear hx
   go_enter Tryz.func65, Tryz.ntmps65
   go_wp2
   go_ret
   exact ⟨rfl, rfl⟩
 ·have HE : Hid (xs.getD i 0 = 0) := (show _ = _ by rw [List.getD_eq_getElem?_getD, List.getElem?_eq_none (by omega)]; rfl)
  rw [HE.out]
  go_enter Tryz.func65, Tryz.ntmps65
  go_wp2
  go_ret
  exact ⟨rfl, rfl⟩
set_option maxHeartbeats 2000000 in
theorem limbs_any (xs : List Nat) (ao : Option Addr) (cap : Nat) (w : World) (hr : NS w ao cap xs) (hL : Hm xs) (hn : xs.length ≤ 17592186044416) :
  Calls Tryz.prog 60 #[.slice ao xs.length cap] w (GaveN w (lo (vh xs))) := by
 obtain ⟨i0, hi, hz0, hz1, hz2⟩ := info_parts Tryz.infoU
 go_enter Tryz.func60, Tryz.ntmps60
 go_wp2
 go_loopg [4, 3, 5] (xs.length + 1) (fun g i v u wr => ∃ k : Nat, 2 * k ≤ xs.length + 1 ∧ g = xs.length + 1 - 2 * k ∧ i = .int .i64 (2 * k) ∧ wr.ownsRow w.heap.size 92 1 v k (uv (px xs k)) ∧ Below w.heap.size w wr)
 case atStart => exact ⟨0, by omega, rfl, rfl, World.ownsRow_nil _ _ _ _, Below.refl _ _⟩
 case round =>
  obtain ⟨k, hk, hg, rfl, hown, hb⟩ := hrel
  have hrr := hr.below hb
  have hbs := hb.size
  by_cases hlt : 2 * k < xs.length
  ·have H2 : Hid (px xs (k + 1) = px xs k ++ [xs.getD (2 * k) 0 + 4294967296 * xs.getD (2 * k + 1) 0]) := px_succ xs k
   have hx1 := hL.getD (2 * k)
   have hx2 := hL.getD (2 * k + 1)
   rcases hrr.1 with h | ⟨b, off, rfl, hc⟩
   ·omega
   ·have g1 := hc (2 * k) hlt
    have g2 : 2 * k + 1 < xs.length → wr.cell? ⟨b, off + (2 * k + 1), none⟩ = some (.int .u64 (xs.getD (2 * k + 1) 0 : Nat)) := fun h => hc (2 * k + 1) h
    have g3 : ¬ 2 * k + 1 < xs.length → xs.getD (2 * k + 1) 0 = 0 := fun h => by rw [List.getD_eq_getElem?_getD, List.getElem?_eq_none (by omega)]; rfl
    obtain ⟨x, hx⟩ : ∃ x, xs.getD (2 * k) 0 = x := ⟨_, rfl⟩
    obtain ⟨y, hy⟩ : ∃ y, xs.getD (2 * k + 1) 0 = y := ⟨_, rfl⟩
    rw [hx] at g1 hx1 H2
    rw [hy] at g2 hx2 H2 g3
    clear hc hrr hr hx hy
    have l1 : (2 * (k : Int)) < (xs.length : Int) := by omega
    have hfin : ∀ (v' : Value) (w1 : World), w1.ownsRow w.heap.size 92 1 v' (k + 1) (uv (px xs k) ++ [.int .u64 ((x : Int) + 4294967296 * (y : Int))]) → w1.ownsRow w.heap.size 92 1 v' (k + 1) (uv (px xs (k + 1))) := fun v' w1 h => by rw [H2.out, uv_append]; simpa [uv] using h
    have hbel : ∀ (o : Obj) (w1 : World), (wr.alloc o).grownBy w1 u3.ownBlock → Below w.heap.size w w1 := fun o w1 hg => (hb.alloc hb.size _).grown hg (by simp; omega) (fun k hk => (hown.lt k hk).1)
    by_cases h4 : 2 * k + 1 < xs.length
    ·have g2' := g2 h4
     have l2 : (2 * (k : Int)) + 1 < (xs.length : Int) := by omega
     clear g2 g3
     go_wp2_with (at_builtin; refine wpList_append_own _ rfl _ _ 47 rfl w.heap.size 92 i0 (.int .u64 0) 1 8 Tryz.underlying47 hi hz0 hz1 hz2 rfl (by decide) _ _ _ rfl (hown.alloc _) ⟨wr.heap.size, 0, none⟩ 1 1 [.int .u64 ((x : Int) + 4294967296 * (y : Int))] rfl rfl (World.news_of_block (cs := #[.int .u64 ((x : Int) + 4294967296 * (y : Int))]) (t := 92) (fr := (0, 0)) (heap_alloc_new wr _)) (by simp [Value.oneCell']) (by unfold maxLen; omega) (by omega) (by simp; omega) ?_; intro v' w1 hown1 hgrow _)
     have hown2 := hfin _ _ hown1
     have hb2 := hbel _ _ hgrow
     clear hown1 hgrow hown hb hfin hbel g1 g2'
     go_wp2
     go_roundg (xs.length + 1 - 2 * (k + 1))
     case measure => omega
     case rel => exact ⟨k + 1, by omega, rfl, by go_num, hown2, hb2⟩
    ·have hy0 := g3 h4
     subst hy0
     have l2 : ¬ (2 * (k : Int)) + 1 < (xs.length : Int) := by omega
     clear g2 g3
     go_wp2_with (at_builtin; refine wpList_append_own _ rfl _ _ 47 rfl w.heap.size 92 i0 (.int .u64 0) 1 8 Tryz.underlying47 hi hz0 hz1 hz2 rfl (by decide) _ _ _ rfl (hown.alloc _) ⟨wr.heap.size, 0, none⟩ 1 1 [.int .u64 (x : Int)] rfl rfl (World.news_of_block (cs := #[.int .u64 (x : Int)]) (t := 92) (fr := (0, 0)) (heap_alloc_new wr _)) (by simp [Value.oneCell']) (by unfold maxLen; omega) (by omega) (by simp; omega) ?_; intro v' w1 hown1 hgrow _)
     have hown2 := hfin _ _ (by simpa using hown1)
     have hb2 := hbel _ _ hgrow
     clear hown1 hgrow hown hb hfin hbel g1
     go_wp2
     go_roundg (xs.length + 1 - 2 * (k + 1))
     case measure => omega
     case rel => exact ⟨k + 1, by omega, rfl, by go_num, hown2, hb2⟩
  ·have HV : Hid (vl (px xs k) = vh xs) := vl_px_all hL (by omega)
   have hm := px_lm hL k
   have hpl := px_length xs k
   have hown' : wr.ownsRow w.heap.size 92 1 u3 (px xs k).length (uv (px xs k)) := by rw [hpl]; exact hown
   obtain ⟨ao', cap', rfl, h1, h2⟩ := owned_ns hown'
   clear hown hown' hrr hr
   have l1 : ¬ (2 * (k : Int)) < (xs.length : Int) := by omega
   have hpl2 : (px xs k).length ≤ 17592186044416 := by omega
   clear hpl
   go_wp2_with (go_at_call 59; refine (natTrim_any _ _ _ _ h1 hm hpl2).mono ?_; rintro e w1 ⟨ao1, cap1, rfl, h3, h4, h5⟩)
   rw [HV.out] at *
   go_ret
   exact ⟨_, _, rfl, h3, h4.mono hbs, hb.trans (h5.mono hbs)⟩
set_option maxHeartbeats 400000 in
theorem natOf_any (x : Nat) (hx : x < 18446744073709551616) (w : World) :
  Calls Tryz.prog 37 #[.int .u64 x] w (GaveN w (lo x)) := by
 have HV : Hid (vl [x] = x) := (show _ = _ by simp [vl])
 have hl : Lm [x] := fun y hy => by simp at hy; omega
 have hns : NS (w.alloc (.cells #[.int .u64 (x : Int)] 92)) (some ⟨w.heap.size, 0, none⟩) 1 [x] := ⟨Or.inr ⟨w.heap.size, 0, rfl, fun j hj => by
  have : j = 0 := by simp at hj; omega
  subst this; go_simp⟩, fun h => (by cases h), by simp⟩
 go_enter Tryz.func37, Tryz.ntmps37
 go_wp2_with (go_at_call 59; refine (natTrim_any [x] _ _ _ hns hl (by simp)).mono ?_; rintro e w1 ⟨ao1, cap1, rfl, h3, h4, h5⟩)
 rw [HV.out] at *
 go_ret
 exact ⟨_, _, rfl, h3, h4.mono (by simp), ((Below.refl _ _).alloc (Nat.le_refl _) _).trans (h5.mono (by simp))⟩
theorem FRow.ns {w : World} {b n V : Nat} {f : Nat → Nat} (h : FRow w b n f) (hf : ∀ j, j < n → f j = dg V j) : NS w (some ⟨b, 0, none⟩) n (th n V) :=
 ⟨h.lrow (th_length _ _) (fun j hj => by rw [th_dg hj, hf j hj]), fun h => (by cases h), by rw [th_length]; exact Nat.le_refl _⟩
theorem LRow.drop {w : World} {b off : Nat} {xs : List Nat} (hc : ∀ j, j < xs.length → w.cell? ⟨b, off + j, none⟩ = some (.int .u64 (xs.getD j 0 : Nat))) (k : Nat) : LRow w (some ⟨b, off + k, none⟩) (xs.drop k) := by
 refine Or.inr ⟨b, off + k, rfl, fun j hj => ?_⟩
 rw [List.length_drop] at hj
 have := hc (k + j) (by omega)
 rw [← Nat.add_assoc] at this
 rw [this, List.getD_eq_getElem?_getD, List.getD_eq_getElem?_getD, List.getElem?_drop]
theorem pow2_lt {r : Nat} (h : r < 32) : 0 < 2 ^ r ∧ 2 ^ r ≤ 2147483648 := ⟨Nat.two_pow_pos r, by
 have := Nat.pow_le_pow_right (show 0 < 2 by omega) (show r ≤ 31 by omega)
 exact this⟩
theorem uv_rep (n : Nat) : uv (List.replicate n 0) = (madeCells #[.int .u64 0] n).toList := by
 rw [toList_madeCells_one]; unfold uv; rw [List.map_replicate]; rfl
theorem own_made (w : World) (n : Nat) (hn : n ≤ maxLen) : (w.alloc (.cells (madeCells #[.int .u64 0] n) 92)).ownsRow w.heap.size 92 1 (.slice (some ⟨w.heap.size, 0, none⟩) n n) n (uv (List.replicate n 0)) := by
 rw [uv_rep]
 exact World.ownsRow_lit w _ n (Nat.le_refl _) hn (by rw [size_madeCells, Nat.mul_one])
def upL (q b A i : Nat) : List Nat := List.replicate q 0 ++ th i (b * A)
theorem upL_succ (q b A i : Nat) : upL q b A (i + 1) = upL q b A i ++ [dg (b * A) i] := by unfold upL; rw [th_snoc, List.append_assoc]
theorem upL_length (q b A i : Nat) : (upL q b A i).length = q + i := by unfold upL; rw [List.length_append, List.length_replicate, th_length]
theorem up_step (P A i : Nat) : (dg A i * P + cr P 0 A i) % 4294967296 = dg (P * A) i ∧ (dg A i * P + cr P 0 A i) / 4294967296 = cr P 0 A (i + 1) := by
 have h := cr_step P 0 A i
 have h0 : dg 0 i = 0 := by unfold dg; rw [Nat.zero_div]
 rw [h0, Nat.add_zero, Nat.zero_add, Nat.mul_comm P (dg A i)] at h
 exact h
theorem cast_um (d P c : Nat) : (((d * P + c) % 4294967296 : Nat) : Int) = ((d : Int) * (P : Int) + (c : Int)) % 4294967296 := by
 rw [Int.natCast_emod, Int.natCast_add, Int.natCast_mul]; rfl
theorem cast_uq (d P c : Nat) : (((d * P + c) / 4294967296 : Nat) : Int) = ((d : Int) * (P : Int) + (c : Int)) / 4294967296 := by
 rw [Int.natCast_ediv, Int.natCast_add, Int.natCast_mul]; rfl
theorem mul_bd {a b : Nat} (ha : a ≤ 4294967295) (hb : b ≤ 4294967295) : (0 : Int) ≤ (a : Int) * (b : Int) ∧ (a : Int) * (b : Int) ≤ 18446744065119617025 := by
 have h : a * b ≤ 4294967295 * 4294967295 := Nat.mul_le_mul ha hb
 rw [← Int.natCast_mul]
 omega
set_option maxHeartbeats 2000000 in
theorem natUp_any (xs : List Nat) (ao : Option Addr) (cap n : Nat) (w : World) (hr : NS w ao cap xs) (hL : Lm xs) (hn : xs.length ≤ 4398046511104) (hn2 : n ≤ 1099511627776) :
  Calls Tryz.prog 42 #[.slice ao xs.length cap, .int .i64 n] w (GaveN w (lo (vl xs * 2 ^ n))) := by
 obtain ⟨i0, hi, hz0, hz1, hz2⟩ := info_parts Tryz.infoU
 have hH := halves_any xs ao cap w hr hL hn
 have hll : (lh (vl xs)).length ≤ 2 * xs.length := by
  rw [lh_length]
  apply nh_le
  have := vl_lt hL
  rw [pow_64_32] at this
  exact this
 obtain ⟨A, hA⟩ : ∃ A, vl xs = A := ⟨_, rfl⟩
 rw [hA] at hH hll ⊢
 clear hA hr hL
 have hAl := lh_lt A
 by_cases hl0 : (lh A).length = 0
 ·have hz : (((lh A).length : Int) == 0) = true := by simp; exact List.eq_nil_of_length_eq_zero hl0
  have HA : Hid (A = 0) := (show A = 0 by rw [hl0, wt_zero] at hAl; omega)
  clear hl0 hAl
  go_enter Tryz.func42, Tryz.ntmps42
  go_wp2_with (go_at_call 62; refine hH.mono ?_; rintro e w1 ⟨ao1, cap1, rfl, h1, f1, b1⟩)
  go_ret
  rw [HA.out, Nat.zero_mul]
  exact ⟨none, 0, rfl, NS.nil _, Frs.none _, b1⟩
 ·have hz : (((lh A).length : Int) == 0) = false := beq_eq_false_iff_ne.2 (by omega)
  obtain ⟨q, hq⟩ : ∃ q, n / 32 = q := ⟨_, rfl⟩
  obtain ⟨r, hr⟩ : ∃ r, n % 32 = r := ⟨_, rfl⟩
  have eq1 : (n : Int) / 32 = (q : Int) := by omega
  have er1 : (n : Int) % 32 = (r : Int) := by omega
  have hr32 : r < 32 := by omega
  have hqn : q ≤ 34359738368 := by omega
  have HD : Hid (A * 2 ^ n = wt q * (2 ^ r * A)) := (show _ = _ by rw [pow_split, hq, hr, Nat.mul_comm A, Nat.mul_assoc])
  have hmk := fun w => run_make_row' (P := Tryz.prog) 47 92 (.int .u64 0) 8 Tryz.underlying47 Tryz.infoU rfl .i64 .i64 q (by omega) (by omega) w
  clear hq hr
  go_enter Tryz.func42, Tryz.ntmps42
  go_wp2_with (go_at_call 62; refine hH.mono ?_; rintro e w1 ⟨ao1, cap1, rfl, h1, f1, b1⟩)
  have hom := own_made w1 q (by unfold maxLen; omega)
  have b2 : Below w1.heap.size w1 (w1.alloc (.cells (madeCells #[.int .u64 0] q) 92)) := (Below.refl _ _).alloc (Nat.le_refl _) _
  clear hmk hH
  generalize hW : w1.alloc (.cells (madeCells #[.int .u64 0] q) 92) = w2 at *
  clear hW
  go_loopg [9, 8] r (fun g i u wx => ∃ j : Nat, j ≤ r ∧ g = r - j ∧ i = .int .i64 j ∧ u = .int .u64 ((2 ^ j : Nat) : Int) ∧ wx = w2)
  case atStart => exact ⟨0, by omega, rfl, rfl, rfl, rfl⟩
  case round =>
   obtain ⟨j, hj, hg2, rfl, rfl, rfl⟩ := hrel
   have hp := pow2_lt (show j < 32 by omega)
   by_cases hjr : j < r
   ·have HP : Hid (((2 ^ (j + 1) : Nat) : Int) = 2 * ((2 ^ j : Nat) : Int)) := (show _ = _ by rw [Nat.pow_succ]; omega)
    have i4 : (j : Int) < (r : Int) := by omega
    obtain ⟨P, hP⟩ : ∃ P, 2 ^ j = P := ⟨_, rfl⟩
    rw [hP] at hp HP ⊢
    clear hP
    go_wp2
    go_roundg (r - (j + 1))
    case measure => omega
    case rel => exact ⟨j + 1, by omega, rfl, by go_num, by rw [HP.out], rfl⟩
   ·obtain rfl : j = r := by omega
    have i4 : ¬ (j : Int) < (j : Int) := by omega
    obtain ⟨P, hP⟩ : ∃ P, 2 ^ j = P := ⟨_, rfl⟩
    rw [hP] at hp HD ⊢
    clear hP
    go_wp2
    go_loopg [10, 6, 7, 11] (lh A).length (fun g i v u s wx => ∃ k : Nat, k ≤ (lh A).length ∧ g = (lh A).length - k ∧ i = .int .i64 k ∧ wx.ownsRow w1.heap.size 92 1 v (q + k) (uv (upL q P A k)) ∧ u = .int .u64 ((cr P 0 A k : Nat) : Int) ∧ Below w1.heap.size w1 wx)
    case atStart => exact ⟨0, by omega, rfl, rfl, by simpa [upL, th] using hom, by rw [cr_zero]; rfl, b2⟩
    case round =>
     obtain ⟨k, hk, hg3, rfl, hown, rfl, hbk⟩ := hrel
     clear hom b2
     have hbs := hbk.size
     have hcr := cr_le P 0 A k
     by_cases hlt : k < (lh A).length
     ·rcases (h1.below hbk).1 with h | ⟨b, off, rfl, hc⟩
      ·omega
      ·have g1 := hc k hlt
       rw [lh_dg] at g1
       have hd1 := dg_lt A k
       obtain ⟨us1, us2⟩ := up_step P A k
       have HT : Hid (uv (upL q P A (k + 1)) = uv (upL q P A k) ++ [.int .u64 ((dg (P * A) k : Nat) : Int)]) := (show _ = _ by rw [upL_succ, uv_append]; rfl)
       have i1 : (k : Int) < ((lh A).length : Int) := by omega
       obtain ⟨d, hd⟩ : ∃ d, dg A k = d := ⟨_, rfl⟩
       obtain ⟨c, hcc⟩ : ∃ c, cr P 0 A k = c := ⟨_, rfl⟩
       rw [hd] at g1 hd1 us1 us2
       rw [hcc] at hcr us1 us2 ⊢
       have HQ : Hid (((dg (P * A) k : Nat) : Int) = ((d : Int) * (P : Int) + (c : Int)) % 4294967296) := (show _ = _ by rw [← us1]; exact cast_um d P c)
       have HR : Hid (((cr P 0 A (k + 1) : Nat) : Int) = ((d : Int) * (P : Int) + (c : Int)) / 4294967296) := (show _ = _ by rw [← us2]; exact cast_uq d P c)
       rw [HQ.out] at HT
       obtain ⟨m1, m2⟩ := mul_bd (a := d) (b := P) (by omega) (by omega)
       clear hc hd hcc us1 us2
       go_wp2_with (at_builtin; refine wpList_append_own _ rfl _ _ 47 rfl w1.heap.size 92 i0 (.int .u64 0) 1 8 Tryz.underlying47 hi hz0 hz1 hz2 rfl (by decide) _ _ _ rfl (hown.alloc _) ⟨wr.heap.size, 0, none⟩ 1 1 [.int .u64 (((d : Int) * (P : Int) + (c : Int)) % 4294967296)] rfl rfl (World.news_of_block (cs := #[.int .u64 (((d : Int) * (P : Int) + (c : Int)) % 4294967296)]) (t := 92) (fr := (0, 0)) (heap_alloc_new wr _)) (by simp [Value.oneCell']) (by unfold maxLen; omega) (by omega) (by simp; omega) ?_; intro v' w3 hown1 hgrow _)
       have hown2 : w3.ownsRow w1.heap.size 92 1 v' (q + (k + 1)) (uv (upL q P A (k + 1))) := by rw [HT.out]; exact hown1
       have hb2 : Below w1.heap.size w1 w3 := (hbk.alloc hbk.size _).grown hgrow (by simp; omega) (fun k hk => (hown.lt k hk).1)
       clear hown1 hgrow hown hbk g1 HT
       go_wp2
       go_roundg ((lh A).length - (k + 1))
       case measure => omega
       case rel => exact ⟨k + 1, by omega, rfl, by go_num, hown2, by rw [HR.out], hb2⟩
     ·obtain rfl : k = (lh A).length := by omega
      have i1 : ¬ ((lh A).length : Int) < ((lh A).length : Int) := by omega
      obtain ⟨c, hcc⟩ : ∃ c, cr P 0 A (lh A).length = c := ⟨_, rfl⟩
      have HV : Hid (vh (upL q P A (lh A).length ++ [c]) = A * 2 ^ n) := (show _ = _ by rw [HD.out, ← hcc, ← up_list hAl]; unfold upL; rw [List.append_assoc])
      have hfm : Hm (upL q P A (lh A).length ++ [c]) := by
       have h := up_hm (A := A) (n := q) (l := (lh A).length) (show P < 4294967296 by omega)
       rw [hcc] at h
       unfold upL; rw [List.append_assoc]; exact h
      have hfl : (upL q P A (lh A).length ++ [c]).length = q + (lh A).length + 1 := by rw [List.length_append, upL_length]; rfl
      rw [hcc] at hcr ⊢
      clear hcc
      have HL : Hid (∀ (v' : Value) (w3 : World), w3.ownsRow w1.heap.size 92 1 v' (q + (lh A).length + 1) (uv (upL q P A (lh A).length) ++ [.int .u64 (c : Int)]) → ∃ ao cap, v' = .slice ao (upL q P A (lh A).length ++ [c]).length cap ∧ NS w3 ao cap (upL q P A (lh A).length ++ [c]) ∧ Frs w1.heap.size ao) := fun v' w3 h => owned_ns (xs := upL q P A (lh A).length ++ [c]) (by rw [hfl, uv_append]; exact h)
      have HB : Hid (∀ (o : Obj) (w3 : World), (wr.alloc o).grownBy w3 u6.ownBlock → Below w1.heap.size w1 w3) := fun o w3 hg => (hbk.alloc hbk.size _).grown hg (by simp; omega) (fun k hk => (hown.lt k hk).1)
      have hfl2 : (upL q P A (lh A).length ++ [c]).length ≤ 17592186044416 := by omega
      clear hfl
      obtain ⟨L, hLL⟩ : ∃ L, upL q P A (lh A).length ++ [c] = L := ⟨_, rfl⟩
      rw [hLL] at hfl2 hfm HV HL
      clear hLL
      go_wp2_with (first
       | (at_builtin; refine wpList_append_own _ rfl _ _ 47 rfl w1.heap.size 92 i0 (.int .u64 0) 1 8 Tryz.underlying47 hi hz0 hz1 hz2 rfl (by decide) _ _ _ rfl (hown.alloc _) ⟨wr.heap.size, 0, none⟩ 1 1 [.int .u64 (c : Int)] rfl rfl (World.news_of_block (cs := #[.int .u64 (c : Int)]) (t := 92) (fr := (0, 0)) (heap_alloc_new wr _)) (by simp [Value.oneCell']) (by unfold maxLen; omega) (by omega) (by simp; omega) ?_; intro v' w3 hown1 hgrow _; obtain ⟨ao3, cap3, rfl, h3, f3⟩ := HL.out v' w3 hown1; have b3 := HB.out _ _ hgrow; clear hown1 hgrow)
       | (go_at_call 60; refine (limbs_any _ _ _ _ h3 hfm hfl2).mono ?_; rintro e w4 ⟨ao4, cap4, rfl, h4, f4, b4⟩))
      rw [HV.out] at *
      go_ret
      have b5 := b1.trans (b3.mono b1.size)
      exact ⟨_, _, rfl, h4, f4.mono b5.size, b5.trans (b4.mono b5.size)⟩
theorem cr_last {A Y m k : Nat} (hA : A < wt m) (hY : Y < wt m) (hk : m + 1 ≤ k) : cr 1 A Y k = 0 := by
 have h1 : wt (m + 1) ≤ wt k := Nat.pow_le_pow_right (by omega) (by omega)
 rw [wt_succ] at h1
 rw [cr_end (by omega) (by omega), Nat.one_mul]
 exact Nat.div_eq_of_lt (by omega)
theorem wt_mono {m k : Nat} (h : m ≤ k) : wt m ≤ wt k := Nat.pow_le_pow_right (by omega) (by omega)
theorem digits_len {xs : List Nat} (hL : Lm xs) : (lh (vl xs)).length ≤ 2 * xs.length := by
 rw [lh_length]
 apply nh_le
 have := vl_lt hL
 rw [pow_64_32] at this
 exact this
set_option maxHeartbeats 4000000 in
set_option maxRecDepth 100000 in
theorem natAdd_any (xs ys : List Nat) (ao bo : Option Addr) (cap bcap : Nat) (w : World) (hr : NS w ao cap xs) (hs : NS w bo bcap ys) (hL : Lm xs) (hM : Lm ys) (hn : xs.length ≤ 4398046511104) (hm : ys.length ≤ 4398046511104) :
  Calls Tryz.prog 43 #[.slice ao xs.length cap, .slice bo ys.length bcap] w (GaveN w (lo (vl xs + vl ys))) := by
 obtain ⟨i0, hi, hz0, hz1, hz2⟩ := info_parts Tryz.infoU
 have hT := halves_any xs ao cap w hr hL hn
 have hU := fun w1 (hb : Below w.heap.size w w1) => halves_any ys bo bcap w1 (hs.below hb) hM hm
 have l1 := digits_len hL
 have l2 := digits_len hM
 obtain ⟨A, ha⟩ : ∃ A, vl xs = A := ⟨_, rfl⟩
 obtain ⟨Y, hy⟩ : ∃ Y, vl ys = Y := ⟨_, rfl⟩
 rw [ha] at hT l1 ⊢
 rw [hy] at hU l2 ⊢
 have hAl := lh_lt A
 have hYl := lh_lt Y
 clear ha hy hr hs hL hM
 go_enter Tryz.func43, Tryz.ntmps43
 go_wp2_with (first
  | (go_at_call_of 62 (Value.slice ao xs.length cap); refine hT.mono ?_; rintro e w1 ⟨ao1, cap1, rfl, h1, f1, b1⟩)
  | (go_at_call_of 62 (Value.slice bo ys.length bcap); refine (hU _ b1).mono ?_; rintro e w2 ⟨ao2, cap2, rfl, h2, f2, b2⟩; have b3 := b1.trans (b2.mono b1.size)))
 have h1' := h1.1.below b2
 have h2' := h2.1
 clear hT hU h1 h2
 go_loopg [9, 7, 8, 10] (max (lh A).length (lh Y).length + 1) (fun g i v u s wx => ∃ k : Nat, k ≤ max (lh A).length (lh Y).length + 1 ∧ g = max (lh A).length (lh Y).length + 1 - k ∧ i = .int .i64 k ∧ wx.ownsRow w2.heap.size 92 1 v k (uv (th k (A + Y))) ∧ u = .int .u64 ((cr 1 A Y k : Nat) : Int) ∧ Below w2.heap.size w2 wx)
 case atStart => exact ⟨0, by omega, rfl, rfl, World.ownsRow_nil _ _ _ _, by rw [cr_zero]; rfl, Below.refl _ _⟩
 case round =>
  obtain ⟨k, hk, hg3, rfl, hown, rfl, hbk⟩ := hrel
  have hbs := hbk.size
  have hcr := cr_le 1 A Y k
  have hlast : k = max (lh A).length (lh Y).length + 1 → cr 1 A Y k = 0 := fun h => cr_last (m := max (lh A).length (lh Y).length) (Nat.lt_of_lt_of_le hAl (wt_mono (Nat.le_max_left _ _))) (Nat.lt_of_lt_of_le hYl (wt_mono (Nat.le_max_right _ _))) (by omega)
  by_cases hstop : (lh A).length ≤ k ∧ (lh Y).length ≤ k ∧ cr 1 A Y k = 0
  ·obtain ⟨s1, s2, s3⟩ := hstop
   have HV : Hid (vh (th k (A + Y)) = A + Y) := sum_end (Nat.lt_of_lt_of_le hAl (wt_mono s1)) (Nat.lt_of_lt_of_le hYl (wt_mono s2)) s3
   have i1 : ¬ (k : Int) < ((lh A).length : Int) := by omega
   have i2 : ¬ (k : Int) < ((lh Y).length : Int) := by omega
   rw [s3]
   have hown' : wr.ownsRow w2.heap.size 92 1 u7 (th k (A + Y)).length (uv (th k (A + Y))) := by rw [th_length]; exact hown
   obtain ⟨ao3, cap3, rfl, h3, f3⟩ := owned_ns hown'
   have hfl2 : (th k (A + Y)).length ≤ 17592186044416 := by rw [th_length]; omega
   have hfm := th_lm k (A + Y)
   obtain ⟨L, hLL⟩ : ∃ L, th k (A + Y) = L := ⟨_, rfl⟩
   rw [hLL] at hfl2 hfm HV h3 ⊢
   clear hLL hown hown' s3 hlast
   go_wp2_with (go_at_call 60; refine (limbs_any _ _ _ _ h3 hfm hfl2).mono ?_; rintro e w4 ⟨ao4, cap4, rfl, h4, f4, b4⟩)
   rw [HV.out] at *
   go_ret
   have b5 := b3.trans (hbk.mono b3.size)
   exact ⟨_, _, rfl, h4, f4.mono b5.size, b5.trans (b4.mono b5.size)⟩
  ·have hkM : k < max (lh A).length (lh Y).length + 1 := by
    rcases Nat.lt_or_ge k (max (lh A).length (lh Y).length + 1) with h | h
    ·exact h
    ·exact absurd ⟨by omega, by omega, hlast (by omega)⟩ hstop
   have hx1 := h1'.below hbk
   have hy1 := h2'.below hbk
   have hd1 := dg_lt A k
   have hd2 := dg_lt Y k
   obtain ⟨us1, us2⟩ := sum_step A Y k
   have HT : Hid (uv (th (k + 1) (A + Y)) = uv (th k (A + Y)) ++ [.int .u64 ((dg (A + Y) k : Nat) : Int)]) := (show _ = _ by rw [th_snoc, uv_append]; rfl)
   obtain ⟨a, hda⟩ : ∃ a, dg A k = a := ⟨_, rfl⟩
   obtain ⟨y, hdy⟩ : ∃ y, dg Y k = y := ⟨_, rfl⟩
   obtain ⟨c, hcc⟩ : ∃ c, cr 1 A Y k = c := ⟨_, rfl⟩
   rw [hda, hdy, hcc] at us1 us2
   rw [hda] at hd1
   rw [hdy] at hd2
   rw [hcc] at hcr hstop ⊢
   have HQ : Hid (((dg (A + Y) k : Nat) : Int) = ((a : Int) + (y : Int) + (c : Int)) % 4294967296) := (show _ = _ by rw [← us1]; omega)
   have HR : Hid (((cr 1 A Y (k + 1) : Nat) : Int) = ((a : Int) + (y : Int) + (c : Int)) / 4294967296) := (show _ = _ by rw [← us2]; omega)
   rw [HQ.out] at HT
   clear us1 us2 hcc hlast h1' h2'
   by_cases c1 : k < (lh A).length
   ·have i1 : (k : Int) < ((lh A).length : Int) := by omega
    go_wp2_with (first
     | (go_at_call_of 65 (Value.slice ao1 (lh A).length cap1); refine (digit_any _ _ _ _ _ hx1).mono ?_; rw [lh_dg, hda]; rintro e w' ⟨rfl, rfl⟩)
     | (go_at_call_of 65 (Value.slice ao2 (lh Y).length cap2); refine (digit_any _ _ _ _ _ hy1).mono ?_; rw [lh_dg, hdy]; rintro e w' ⟨rfl, rfl⟩)
     | (at_builtin; (refine wpList_append_own _ rfl _ _ 47 rfl w2.heap.size 92 i0 (.int .u64 0) 1 8 Tryz.underlying47 hi hz0 hz1 hz2 rfl (by decide) _ _ _ rfl (hown.alloc _) ⟨_, 0, none⟩ 1 1 [.int .u64 (((a : Int) + (y : Int) + (c : Int)) % 4294967296)] rfl rfl (World.news_of_block (cs := #[.int .u64 (((a : Int) + (y : Int) + (c : Int)) % 4294967296)]) (t := 92) (fr := (0, 0)) (heap_alloc_new _ _)) (by simp [Value.oneCell']) (by unfold maxLen; omega) (by omega) (by simp; omega) ?_); intro v' w3 hown1 hgrow _))
    have hown2 : w3.ownsRow w2.heap.size 92 1 v' (k + 1) (uv (th (k + 1) (A + Y))) := by rw [HT.out]; exact hown1
    have hb2 : Below w2.heap.size w2 w3 := (hbk.alloc hbk.size _).grown hgrow (by simp; omega) (fun k hk => (hown.lt k hk).1)
    clear hown1 hgrow hown hbk HT hx1 hy1
    go_wp2
    go_roundg (max (lh A).length (lh Y).length + 1 - (k + 1))
    case measure => omega
    case rel => exact ⟨k + 1, by omega, rfl, by go_num, hown2, by rw [HR.out], hb2⟩
   ·have i1 : ¬ (k : Int) < ((lh A).length : Int) := by omega
    by_cases c2 : k < (lh Y).length
    ·have i2 : (k : Int) < ((lh Y).length : Int) := by omega
     go_wp2_with (first
      | (go_at_call_of 65 (Value.slice ao1 (lh A).length cap1); refine (digit_any _ _ _ _ _ hx1).mono ?_; rw [lh_dg, hda]; rintro e w' ⟨rfl, rfl⟩)
      | (go_at_call_of 65 (Value.slice ao2 (lh Y).length cap2); refine (digit_any _ _ _ _ _ hy1).mono ?_; rw [lh_dg, hdy]; rintro e w' ⟨rfl, rfl⟩)
      | (at_builtin; (refine wpList_append_own _ rfl _ _ 47 rfl w2.heap.size 92 i0 (.int .u64 0) 1 8 Tryz.underlying47 hi hz0 hz1 hz2 rfl (by decide) _ _ _ rfl (hown.alloc _) ⟨_, 0, none⟩ 1 1 [.int .u64 (((a : Int) + (y : Int) + (c : Int)) % 4294967296)] rfl rfl (World.news_of_block (cs := #[.int .u64 (((a : Int) + (y : Int) + (c : Int)) % 4294967296)]) (t := 92) (fr := (0, 0)) (heap_alloc_new _ _)) (by simp [Value.oneCell']) (by unfold maxLen; omega) (by omega) (by simp; omega) ?_); intro v' w3 hown1 hgrow _))
     have hown2 : w3.ownsRow w2.heap.size 92 1 v' (k + 1) (uv (th (k + 1) (A + Y))) := by rw [HT.out]; exact hown1
     have hb2 : Below w2.heap.size w2 w3 := (hbk.alloc hbk.size _).grown hgrow (by simp; omega) (fun k hk => (hown.lt k hk).1)
     clear hown1 hgrow hown hbk HT hx1 hy1
     go_wp2
     go_roundg (max (lh A).length (lh Y).length + 1 - (k + 1))
     case measure => omega
     case rel => exact ⟨k + 1, by omega, rfl, by go_num, hown2, by rw [HR.out], hb2⟩
    ·have i2 : ¬ (k : Int) < ((lh Y).length : Int) := by omega
     have i3 : (0 : Int) < (c : Int) := by
      rcases Nat.eq_zero_or_pos c with h | h
      ·exact absurd ⟨by omega, by omega, h⟩ hstop
      ·omega
     clear hstop
     go_wp2_with (first
      | (go_at_call_of 65 (Value.slice ao1 (lh A).length cap1); refine (digit_any _ _ _ _ _ hx1).mono ?_; rw [lh_dg, hda]; rintro e w' ⟨rfl, rfl⟩)
      | (go_at_call_of 65 (Value.slice ao2 (lh Y).length cap2); refine (digit_any _ _ _ _ _ hy1).mono ?_; rw [lh_dg, hdy]; rintro e w' ⟨rfl, rfl⟩)
      | (at_builtin; (refine wpList_append_own _ rfl _ _ 47 rfl w2.heap.size 92 i0 (.int .u64 0) 1 8 Tryz.underlying47 hi hz0 hz1 hz2 rfl (by decide) _ _ _ rfl (hown.alloc _) ⟨_, 0, none⟩ 1 1 [.int .u64 (((a : Int) + (y : Int) + (c : Int)) % 4294967296)] rfl rfl (World.news_of_block (cs := #[.int .u64 (((a : Int) + (y : Int) + (c : Int)) % 4294967296)]) (t := 92) (fr := (0, 0)) (heap_alloc_new _ _)) (by simp [Value.oneCell']) (by unfold maxLen; omega) (by omega) (by simp; omega) ?_); intro v' w3 hown1 hgrow _))
     have hown2 : w3.ownsRow w2.heap.size 92 1 v' (k + 1) (uv (th (k + 1) (A + Y))) := by rw [HT.out]; exact hown1
     have hb2 : Below w2.heap.size w2 w3 := (hbk.alloc hbk.size _).grown hgrow (by simp; omega) (fun k hk => (hown.lt k hk).1)
     clear hown1 hgrow hown hbk HT hx1 hy1
     go_wp2
     go_roundg (max (lh A).length (lh Y).length + 1 - (k + 1))
     case measure => omega
     case rel => exact ⟨k + 1, by omega, rfl, by go_num, hown2, by rw [HR.out], hb2⟩
theorem below_drewN {B : Nat} {w w1 : World} (h : Below B w w1) (n : Nat) : Below B w (w1.drewN n) := ⟨h.os, h.tape, h.output, h.size, h.block⟩
theorem own_drewN {w : World} {base : Nat} {e : TypeId} {v : Value} {n : Nat} {xs : List Value} (h : w.ownsRow base e 1 v n xs) (k : Nat) : (w.drewN k).ownsRow base e 1 v n xs := h
theorem digit_at (v : Nat) (ao : Option Addr) (cap : Nat) (i y : Nat) (w : World) (hr : LRow w ao (lh v)) (hy : dg v i = y) :
  Calls Tryz.prog 65 #[.slice ao (lh v).length cap, .int .i64 i] w fun e w' => e = .returned (.int .u64 (y : Int)) ∧ w' = w := by
 have h := digit_any (lh v) ao cap i w hr
 rw [lh_dg, hy] at h
 exact h
set_option maxHeartbeats 4000000 in
set_option maxRecDepth 100000 in
theorem natSub_any (xs ys : List Nat) (ao bo : Option Addr) (cap bcap : Nat) (w : World) (hr : NS w ao cap xs) (hs : NS w bo bcap ys) (hL : Lm xs) (hM : Lm ys) (hn : xs.length ≤ 4398046511104) (hm : ys.length ≤ 4398046511104) (hle : vl ys ≤ vl xs) :
  Calls Tryz.prog 45 #[.slice ao xs.length cap, .slice bo ys.length bcap] w (GaveN w (lo (vl xs - vl ys))) := by
 obtain ⟨i0, hi, hz0, hz1, hz2⟩ := info_parts Tryz.infoU
 have hT := halves_any xs ao cap w hr hL hn
 have hU := fun w1 (hb : Below w.heap.size w w1) => halves_any ys bo bcap w1 (hs.below hb) hM hm
 have l1 := digits_len hL
 have l2 := digits_len hM
 obtain ⟨A, ha⟩ : ∃ A, vl xs = A := ⟨_, rfl⟩
 obtain ⟨Y, hy⟩ : ∃ Y, vl ys = Y := ⟨_, rfl⟩
 rw [ha] at hT l1 hle ⊢
 rw [hy] at hU l2 hle ⊢
 have hAl := lh_lt A
 obtain ⟨D, hD⟩ : ∃ D, A - Y = D := ⟨_, rfl⟩
 have hDA : D + Y = A := by omega
 rw [hD]
 clear ha hy hr hs hL hM hD hle
 go_enter Tryz.func45, Tryz.ntmps45
 go_wp2_with (first
  | (go_at_call_of 62 (Value.slice ao xs.length cap); refine hT.mono ?_; rintro e w1 ⟨ao1, cap1, rfl, h1, f1, b1⟩)
  | (go_at_call_of 62 (Value.slice bo ys.length bcap); refine (hU _ b1).mono ?_; rintro e w2 ⟨ao2, cap2, rfl, h2, f2, b2⟩; have b3 := b1.trans (b2.mono b1.size)))
 have h1' := h1.1.below b2
 have h2' := h2.1
 have HD : Hid (D + Y = A) := hDA
 clear hT hU h1 h2 hDA
 go_loopg [9, 7, 8, 10] (lh A).length (fun g i v u s wx => ∃ k : Nat, k ≤ (lh A).length ∧ g = (lh A).length - k ∧ i = .int .i64 k ∧ wx.ownsRow w2.heap.size 92 1 v k (uv (th k D)) ∧ u = .int .u64 ((cr 1 D Y k : Nat) : Int) ∧ Below w2.heap.size w2 wx)
 case atStart => exact ⟨0, by omega, rfl, rfl, World.ownsRow_nil _ _ _ _, by rw [cr_zero]; rfl, Below.refl _ _⟩
 case round =>
  obtain ⟨k, hk, hg3, rfl, hown, rfl, hbk⟩ := hrel
  have hbs := hbk.size
  have hcr := cr_le 1 D Y k
  by_cases hlt : k < (lh A).length
  ·have hy1 := h2'.below hbk
   rcases h1'.below hbk with h | ⟨b, off, rfl, hc⟩
   ·omega
   ·have g1 := hc k hlt
    have hd1 := dg_lt A k
    have hd2 := dg_lt Y k
    obtain ⟨us1, us2⟩ := less_step D Y k
    rw [HD.out] at us1 us2
    rw [lh_dg] at g1
    have HT : Hid (uv (th (k + 1) D) = uv (th k D) ++ [.int .u64 ((dg D k : Nat) : Int)]) := (show _ = _ by rw [th_snoc, uv_append]; rfl)
    obtain ⟨a, hda⟩ : ∃ a, dg A k = a := ⟨_, rfl⟩
    obtain ⟨y, hdy⟩ : ∃ y, dg Y k = y := ⟨_, rfl⟩
    obtain ⟨c, hcc⟩ : ∃ c, cr 1 D Y k = c := ⟨_, rfl⟩
    rw [hda, hdy, hcc] at us1 us2
    rw [hda] at hd1 g1
    rw [hdy] at hd2
    rw [hcc] at hcr ⊢
    have HQ : Hid (((dg D k : Nat) : Int) = (4294967296 + (a : Int) - (y : Int) - (c : Int)) % 4294967296) := (show _ = _ by rw [← us1]; omega)
    have HR : Hid (((cr 1 D Y (k + 1) : Nat) : Int) = 1 - (4294967296 + (a : Int) - (y : Int) - (c : Int)) / 4294967296) := (show _ = _ by rw [← us2]; omega)
    rw [HQ.out] at HT
    have e1 : IntKind.u64.wrap (4294967296 + (a : Int)) = 4294967296 + (a : Int) := by rw [IntKind.wrap_u64]; omega
    have e2 : IntKind.u64.wrap (4294967296 + (a : Int) - (y : Int)) = 4294967296 + (a : Int) - (y : Int) := by rw [IntKind.wrap_u64]; omega
    have e3 : IntKind.u64.wrap (4294967296 + (a : Int) - (y : Int) - (c : Int)) = 4294967296 + (a : Int) - (y : Int) - (c : Int) := by rw [IntKind.wrap_u64]; omega
    have i1 : (k : Int) < ((lh A).length : Int) := by omega
    have HY : Hid (dg Y k = y) := hdy
    clear us1 us2 hcc hc h1' h2' hda hdy
    go_wp2
    go_quiet ((go_at_call 65; exact Calls.quiet_of_same (digit_at Y ao2 cap2 k y _ hy1 HY.out)))
    have hownq := own_drewN hown nq
    have hbq := below_drewN hbk nq
    have hbs' : w2.heap.size ≤ (wr.drewN nq).heap.size := hbs
    have hB : Hid (∀ (o : Obj) (w3 : World), ((wr.drewN nq).alloc o).grownBy w3 u7.ownBlock → Below w2.heap.size w2 w3) := fun o w3 hg => (hbq.alloc hbq.size _).grown hg (by simp; omega) (fun k hk => (hown.lt k hk).1)
    clear hown hbk hbq hy1 g1
    go_wp2_with (at_builtin; refine wpList_append_own _ rfl _ _ 47 rfl w2.heap.size 92 i0 (.int .u64 0) 1 8 Tryz.underlying47 hi hz0 hz1 hz2 rfl (by decide) _ _ _ rfl (hownq.alloc _) ⟨_, 0, none⟩ 1 1 [.int .u64 ((4294967296 + (a : Int) - (y : Int) - (c : Int)) % 4294967296)] rfl rfl (World.news_of_block (cs := #[.int .u64 ((4294967296 + (a : Int) - (y : Int) - (c : Int)) % 4294967296)]) (t := 92) (fr := (0, 0)) (heap_alloc_new _ _)) (by simp [Value.oneCell']) (by unfold maxLen; omega) (by omega) (by simp; omega) ?_; intro v' w3 hown1 hgrow _)
    have hown2 : w3.ownsRow w2.heap.size 92 1 v' (k + 1) (uv (th (k + 1) D)) := by rw [HT.out]; exact hown1
    have hb2 : Below w2.heap.size w2 w3 := hB.out _ _ hgrow
    clear hown1 hgrow hownq HT hB
    go_wp2
    go_roundg ((lh A).length - (k + 1))
    case measure => omega
    case rel => exact ⟨k + 1, by omega, rfl, by go_num, hown2, by rw [HR.out], hb2⟩
  ·obtain rfl : k = (lh A).length := by omega
   have i1 : ¬ ((lh A).length : Int) < ((lh A).length : Int) := by omega
   have HV : Hid (vh (th (lh A).length D) = D) := (show _ = _ by rw [vh_th', Nat.mod_eq_of_lt (by have := HD.out; omega)])
   have hown' : wr.ownsRow w2.heap.size 92 1 u7 (th (lh A).length D).length (uv (th (lh A).length D)) := by rw [th_length]; exact hown
   obtain ⟨ao3, cap3, rfl, h3, f3⟩ := owned_ns hown'
   have hfl2 : (th (lh A).length D).length ≤ 17592186044416 := by rw [th_length]; omega
   have hfm := th_lm (lh A).length D
   obtain ⟨L, hLL⟩ : ∃ L, th (lh A).length D = L := ⟨_, rfl⟩
   rw [hLL] at hfl2 hfm HV h3 ⊢
   clear hLL hown hown'
   go_wp2_with (go_at_call 60; refine (limbs_any _ _ _ _ h3 hfm hfl2).mono ?_; rintro e w4 ⟨ao4, cap4, rfl, h4, f4, b4⟩)
   rw [HV.out] at *
   go_ret
   have b5 := b3.trans (hbk.mono b3.size)
   exact ⟨_, _, rfl, h4, f4.mono b5.size, b5.trans (b4.mono b5.size)⟩
theorem dg_shift (A i k : Nat) : dg A (i + k) = dg (A / wt i) k := by unfold dg; rw [wt_add, Nat.div_div_eq_div_mul]
theorem dg_over {A m j : Nat} (h : A < wt m) (hj : m ≤ j) : dg A j = 0 := by
 unfold dg; rw [Nat.div_eq_of_lt (Nat.lt_of_lt_of_le h (wt_mono hj)), Nat.zero_mod]
theorem dg_low {A Z i j : Nat} (h : j < i) : dg (A + wt i * Z) j = dg A j := by
 obtain ⟨d, rfl⟩ : ∃ d, i = j + (1 + d) := ⟨i - j - 1, by omega⟩
 have e : wt (j + (1 + d)) * Z = wt j * (4294967296 * (wt d * Z)) := by
  rw [wt_add, wt_add, show wt 1 = 4294967296 from rfl]; ac_rfl
 unfold dg
 rw [e, Nat.add_mul_div_left _ _ (wt_pos j), Nat.add_mul_mod_self_left]
theorem pm_succ (X Y i : Nat) : X % wt (i + 1) * Y = X % wt i * Y + wt i * (dg X i * Y) := by
 rw [mod_wt_succ, Nat.add_mul, Nat.mul_assoc]
theorem pm_lt {X Y i l : Nat} (hY : Y < wt l) : X % wt i * Y < wt (i + l) := by
 rw [wt_add]
 exact Nat.mul_lt_mul_of_lt_of_le (Nat.mod_lt _ (wt_pos i)) (Nat.le_of_lt hY) (wt_pos l)
theorem pm_div {X Y i l : Nat} (hY : Y < wt l) : X % wt i * Y / wt i < wt l := by
 apply Nat.div_lt_of_lt_mul
 rw [← wt_add]
 exact pm_lt hY
theorem pm_next (X Y i : Nat) : X % wt (i + 1) * Y / wt i = X % wt i * Y / wt i + dg X i * Y := by
 rw [pm_succ, Nat.add_mul_div_left _ _ (wt_pos i)]
def rowF (X Y i k j : Nat) : Nat := if j < i + k then dg (X % wt (i + 1) * Y) j else dg (X % wt i * Y) j
theorem rowF_zero (X Y i j : Nat) : rowF X Y i 0 j = dg (X % wt i * Y) j := by
 unfold rowF
 by_cases h : j < i
 ·rw [if_pos (by omega), pm_succ, dg_low h]
 ·rw [if_neg (by omega)]
theorem rowF_step (X Y i k : Nat) : (dg X i * dg Y k + rowF X Y i k (i + k) + cr (dg X i) (X % wt i * Y / wt i) Y k) % 4294967296 = dg (X % wt (i + 1) * Y) (i + k) ∧ (dg X i * dg Y k + rowF X Y i k (i + k) + cr (dg X i) (X % wt i * Y / wt i) Y k) / 4294967296 = cr (dg X i) (X % wt i * Y / wt i) Y (k + 1) := by
 have h := cr_step (dg X i) (X % wt i * Y / wt i) Y k
 have e1 : rowF X Y i k (i + k) = dg (X % wt i * Y / wt i) k := by unfold rowF; rw [if_neg (by omega), dg_shift]
 have e2 : dg (X % wt (i + 1) * Y) (i + k) = dg (X % wt i * Y / wt i + dg X i * Y) k := by rw [dg_shift, pm_next]
 rw [e1, e2]
 exact h
theorem rowF_succ (X Y i k j : Nat) : (if j = i + k then dg (X % wt (i + 1) * Y) (i + k) else rowF X Y i k j) = rowF X Y i (k + 1) j := by
 unfold rowF
 by_cases h : j = i + k
 ·subst h; rw [if_pos rfl, if_pos (by omega)]
 ·rw [if_neg h]
  by_cases h2 : j < i + k
  ·rw [if_pos h2, if_pos (by omega)]
  ·rw [if_neg h2, if_neg (by omega)]
theorem rowF_end {X Y i l : Nat} (hY : Y < wt l) (j : Nat) : (if j = i + l then cr (dg X i) (X % wt i * Y / wt i) Y l else rowF X Y i l j) = dg (X % wt (i + 1) * Y) j := by
 by_cases h : j = i + l
 ·subst h
  rw [if_pos rfl, cr_end (pm_div hY) hY, dg_shift, pm_next]
  have h1 := pm_div (X := X) (Y := Y) (i := i + 1) hY
  rw [wt_succ, ← Nat.div_div_eq_div_mul, ← wt_succ, pm_next] at h1
  generalize X % wt i * Y / wt i + dg X i * Y = V at *
  unfold dg
  rw [Nat.mod_eq_of_lt]
  apply Nat.div_lt_of_lt_mul
  exact (Nat.div_lt_iff_lt_mul (k := 4294967296) (x := V) (y := wt l) (by omega)).1 h1
 ·rw [if_neg h]
  unfold rowF
  by_cases h2 : j < i + l
  ·rw [if_pos h2]
  ·rw [if_neg h2, dg_over (pm_lt hY) (by omega), dg_over (m := i + 1 + l) (pm_lt hY) (by omega)]
theorem row_bd {x y o c : Nat} (hx : x < 4294967296) (hy : y < 4294967296) (ho : o < 4294967296) (hc : c ≤ x) : x * y + o + c < 18446744073709551616 ∧ x * y ≤ 18446744065119617025 := by
 have h : x * y ≤ 4294967295 * 4294967295 := Nat.mul_le_mul (by omega) (by omega)
 omega
theorem cast_rm (x y o c : Nat) : (((x * y + o + c) % 4294967296 : Nat) : Int) = ((x : Int) * (y : Int) + (o : Int) + (c : Int)) % 4294967296 := by
 rw [Int.natCast_emod, Int.natCast_add, Int.natCast_add, Int.natCast_mul]; rfl
theorem cast_rq (x y o c : Nat) : (((x * y + o + c) / 4294967296 : Nat) : Int) = ((x : Int) * (y : Int) + (o : Int) + (c : Int)) / 4294967296 := by
 rw [Int.natCast_ediv, Int.natCast_add, Int.natCast_add, Int.natCast_mul]; rfl
theorem wrap_fit {z : Int} (h0 : 0 ≤ z) (h1 : z < 18446744073709551616) : IntKind.u64.wrap z = z := by rw [IntKind.wrap_u64]; omega
set_option maxHeartbeats 4000000 in
set_option maxRecDepth 100000 in
theorem nprod_any (xs ys : List Nat) (ao bo : Option Addr) (cap bcap : Nat) (w : World) (hr : NS w ao cap xs) (hs : NS w bo bcap ys) (hL : Hm xs) (hM : Hm ys) (hn : xs.length ≤ 4398046511104) (hm : ys.length ≤ 4398046511104) :
  Calls Tryz.prog 61 #[.slice ao xs.length cap, .slice bo ys.length bcap] w (GaveN w (lh (vh xs * vh ys))) := by
 obtain ⟨n, hn0⟩ : ∃ n, xs.length + ys.length = n := ⟨_, rfl⟩
 have hmk := run_make_row' (P := Tryz.prog) 47 92 (.int .u64 0) 8 Tryz.underlying47 Tryz.infoU rfl .i64 .i64 n (by omega) (by omega)
 have en : ((xs.length : Int) + (ys.length : Int)) = (n : Int) := by omega
 have hmade := FRow.made w n
 have hbm : Below w.heap.size w (w.alloc (.cells (madeCells #[.int .u64 0] n) 92)) := (Below.refl _ _).alloc (Nat.le_refl _) _
 have hXl := vh_lt' hL
 have hYl := vh_lt' hM
 go_enter Tryz.func61, Tryz.ntmps61
 go_wp2
 clear hmk
 go_loopg [6, 7, 8, 9] xs.length (fun g i u v s wr => ∃ k : Nat, k ≤ xs.length ∧ g = xs.length - k ∧ i = .int .i64 k ∧ FRow wr w.heap.size n (fun j => dg (vh xs % wt k * vh ys) j) ∧ Below w.heap.size w wr)
 case atStart => exact ⟨0, Nat.zero_le _, rfl, rfl, hmade.congr (fun j _ => by rw [wt_zero, Nat.mod_one, Nat.zero_mul]; unfold dg; rw [Nat.zero_div]), hbm⟩
 case round =>
  obtain ⟨i, hi, hg, rfl, hrow, hb⟩ := hrel
  clear hmade hbm
  by_cases hlt : i < xs.length
  ·have j1 : (i : Int) < (xs.length : Int) := by omega
   have hcx := hL.getD i
   rw [dg_of hL] at hcx
   go_wp2
   go_loopg [8, 7, 9] ys.length (fun g kk u s wx => ∃ k : Nat, k ≤ ys.length ∧ g = ys.length - k ∧ kk = .int .i64 k ∧ u = .int .u64 ((cr (dg (vh xs) i) (vh xs % wt i * vh ys / wt i) (vh ys) k : Nat) : Int) ∧ FRow wx w.heap.size n (rowF (vh xs) (vh ys) i k) ∧ Below w.heap.size w wx)
   case atStart => exact ⟨0, Nat.zero_le _, rfl, rfl, by rw [cr_zero]; rfl, hrow.congr (fun j _ => (rowF_zero _ _ _ j).symm), hb⟩
   case round =>
    obtain ⟨k, hk, hg2, rfl, rfl, hrow2, hb2⟩ := hrel
    clear hrow hb
    have hcr := cr_le (dg (vh xs) i) (vh xs % wt i * vh ys / wt i) (vh ys) k
    by_cases hlk : k < ys.length
    ·rcases (hr.below hb2).1 with h | ⟨b, off, rfl, hc⟩
     ·omega
     ·rcases (hs.below hb2).1 with h | ⟨b2, off2, rfl, hc2⟩
      ·omega
      ·have g1 := hc i hlt
       have g2 := hc2 k hlk
       rw [dg_of hL] at g1
       rw [dg_of hM] at g2
       have g3 : wr.cell? ⟨w.heap.size, i + k, none⟩ = some (.int .u64 ((rowF (vh xs) (vh ys) i k (i + k) : Nat) : Int)) := World.rowIs.cell hrow2 (by omega)
       have g4 := World.rowIs.frozen hrow2 (i + k)
       have hcy := dg_lt (vh ys) k
       have hco : rowF (vh xs) (vh ys) i k (i + k) < 4294967296 := by unfold rowF; rw [if_neg (by omega)]; exact dg_lt _ _
       obtain ⟨us1, us2⟩ := rowF_step (vh xs) (vh ys) i k
       obtain ⟨x, hx⟩ : ∃ x, dg (vh xs) i = x := ⟨_, rfl⟩
       obtain ⟨y, hy⟩ : ∃ y, dg (vh ys) k = y := ⟨_, rfl⟩
       obtain ⟨o, ho⟩ : ∃ o, rowF (vh xs) (vh ys) i k (i + k) = o := ⟨_, rfl⟩
       rw [hx] at hcr us1 us2 g1 hcx ⊢
       obtain ⟨c, hcc⟩ : ∃ c, cr x (vh xs % wt i * vh ys / wt i) (vh ys) k = c := ⟨_, rfl⟩
       rw [hcc] at hcr us1 us2 ⊢
       rw [hy] at us1 us2 g2 hcy
       rw [ho] at us1 us2 g3 hco
       have HX : Hid (dg (vh xs) i = x) := hx
       have HQ : Hid (((dg (vh xs % wt (i + 1) * vh ys) (i + k) : Nat) : Int) = ((x : Int) * (y : Int) + (o : Int) + (c : Int)) % 4294967296) := (show _ = _ by rw [← us1]; exact cast_rm x y o c)
       have HR : Hid (((cr x (vh xs % wt i * vh ys / wt i) (vh ys) (k + 1) : Nat) : Int) = ((x : Int) * (y : Int) + (o : Int) + (c : Int)) / 4294967296) := (show _ = _ by rw [← us2]; exact cast_rq x y o c)
       obtain ⟨m0, m1⟩ := row_bd hcx hcy hco hcr
       have q0 := (mul_bd (a := x) (b := y) (by omega) (by omega)).1
       have q1 : (x : Int) * (y : Int) + (o : Int) + (c : Int) < 18446744073709551616 := by rw [← Int.natCast_mul]; omega
       have e1 : IntKind.u64.wrap ((x : Int) * (y : Int)) = (x : Int) * (y : Int) := wrap_fit q0 (by omega)
       have e2 : IntKind.u64.wrap ((x : Int) * (y : Int) + (o : Int)) = (x : Int) * (y : Int) + (o : Int) := wrap_fit (by omega) (by omega)
       have e3 : IntKind.u64.wrap ((x : Int) * (y : Int) + (o : Int) + (c : Int)) = (x : Int) * (y : Int) + (o : Int) + (c : Int) := wrap_fit (by omega) q1
       have e4 : IntKind.i64.wrap ((i : Int) + (k : Int)) = (i : Int) + (k : Int) := by rw [IntKind.wrap_i64]; omega
       have k1 : (k : Int) < (ys.length : Int) := by omega
       have k2 : (i : Int) + (k : Int) < (n : Int) := by omega
       have HS : Hid (∀ nq, FRow ((wr.drewN nq).setCell ⟨w.heap.size, i + k, none⟩ (.int .u64 (((x : Int) * (y : Int) + (o : Int) + (c : Int)) % 4294967296))) w.heap.size n (rowF (vh xs) (vh ys) i (k + 1)) ∧ Below w.heap.size w ((wr.drewN nq).setCell ⟨w.heap.size, i + k, none⟩ (.int .u64 (((x : Int) * (y : Int) + (o : Int) + (c : Int)) % 4294967296)))) := by
        intro nq
        have h3 : FRow (wr.drewN nq) w.heap.size n (rowF (vh xs) (vh ys) i k) := hrow2
        rw [← HQ.out]
        exact ⟨(h3.set (i + k) _).congr (fun j _ => rowF_succ _ _ _ _ _), (below_drewN hb2 nq).setCell (p := ⟨w.heap.size, i + k, none⟩) (Nat.le_refl _) _⟩
       clear hc hc2 hx hy ho hcc us1 us2 m0 m1 hrow2 hb2 hr hs HQ
       go_wp2
       go_quiet (fail)
       have HS2 := HS.out nq
       clear HS
       go_wp2
       go_roundg (ys.length - (k + 1))
       case measure => omega
       case rel => exact ⟨k + 1, by omega, rfl, by go_num, by rw [HX.out, HR.out], HS2.1, HS2.2⟩
    ·obtain rfl : k = ys.length := by omega
     obtain ⟨c, hcc⟩ : ∃ c, cr (dg (vh xs) i) (vh xs % wt i * vh ys / wt i) (vh ys) ys.length = c := ⟨_, rfl⟩
     have hset := (hrow2.set (i + ys.length) c).congr (g := fun j => dg (vh xs % wt (i + 1) * vh ys) j) (fun j _ => by rw [← hcc]; exact rowF_end hYl j)
     have hbs := hb2.setCell (p := ⟨w.heap.size, i + ys.length, none⟩) (Nat.le_refl _) (.int .u64 (c : Int))
     have g3 : wr.cell? ⟨w.heap.size, i + ys.length, none⟩ = some (.int .u64 ((rowF (vh xs) (vh ys) i ys.length (i + ys.length) : Nat) : Int)) := World.rowIs.cell hrow2 (by omega)
     have g4 := World.rowIs.frozen hrow2 (i + ys.length)
     have e4 : IntKind.i64.wrap ((i : Int) + (ys.length : Int)) = (i : Int) + (ys.length : Int) := by rw [IntKind.wrap_i64]; omega
     have k2 : (i : Int) + (ys.length : Int) < (n : Int) := by omega
     have k1 : ¬ (ys.length : Int) < (ys.length : Int) := by omega
     rw [hcc]
     clear hcc hrow2 hb2 hcr
     go_wp2
     go_roundg (xs.length - (i + 1))
     case measure => omega
     case rel => exact ⟨i + 1, by omega, rfl, by go_num, hset, hbs⟩
  ·obtain rfl : i = xs.length := by omega
   have j1 : ¬ (xs.length : Int) < (xs.length : Int) := by omega
   have HV : Hid (vh xs % wt xs.length = vh xs) := Nat.mod_eq_of_lt hXl
   have hpl : vh xs * vh ys < wt n := by
    rw [← hn0]
    have h := pm_lt (X := vh xs) (i := xs.length) hYl
    rw [HV.out] at h
    exact h
   have hns := FRow.ns (V := vh xs * vh ys) hrow (fun j _ => by rw [HV.out])
   have hl1 : (th n (vh xs * vh ys)).length = n := th_length _ _
   have hlw := low_any (th n (vh xs * vh ys)) _ _ wr hns (th_lm _ _) (by rw [hl1]; omega)
   rw [hl1, vh_th', Nat.mod_eq_of_lt hpl] at hlw
   clear hrow hl1 hns hr hs
   go_wp2_with (go_at_call 79; refine hlw.mono ?_; rintro e w' ⟨rfl, h3, rfl⟩)
   go_ret
   exact ⟨_, _, rfl, h3, fun a ha => (by cases ha; exact Nat.le_refl _), hb⟩
set_option maxHeartbeats 1000000 in
theorem natMul_any (xs ys : List Nat) (ao bo : Option Addr) (cap bcap : Nat) (w : World) (hr : NS w ao cap xs) (hs : NS w bo bcap ys) (hL : Lm xs) (hM : Lm ys) (hn : xs.length ≤ 1099511627776) (hm : ys.length ≤ 1099511627776) :
  Calls Tryz.prog 38 #[.slice ao xs.length cap, .slice bo ys.length bcap] w (GaveN w (lo (vl xs * vl ys))) := by
 have hT := halves_any xs ao cap w hr hL (by omega)
 have hU := fun w1 (hb : Below w.heap.size w w1) => halves_any ys bo bcap w1 (hs.below hb) hM (by omega)
 have l1 := digits_len hL
 have l2 := digits_len hM
 have l3 : (lh (vl xs * vl ys)).length ≤ (lh (vl xs)).length + (lh (vl ys)).length := by
  rw [lh_length]
  apply nh_le
  rw [wt_add]
  exact Nat.mul_lt_mul'' (lh_lt _) (lh_lt _)
 obtain ⟨A, ha⟩ : ∃ A, vl xs = A := ⟨_, rfl⟩
 obtain ⟨Y, hy⟩ : ∃ Y, vl ys = Y := ⟨_, rfl⟩
 rw [ha] at hT l1 l3 ⊢
 rw [hy] at hU l2 l3 ⊢
 have hP := fun ao1 bo1 cap1 bcap1 w1 h1 h2 => nprod_any (lh A) (lh Y) ao1 bo1 cap1 bcap1 w1 h1 h2 (lh_lm _) (lh_lm _) (by omega) (by omega)
 rw [vh_lh, vh_lh] at hP
 have hE := fun ao1 cap1 w1 h1 => limbs_any (lh (A * Y)) ao1 cap1 w1 h1 (lh_lm _) (by omega)
 rw [vh_lh] at hE
 clear ha hy hr hs hL hM
 go_enter Tryz.func38, Tryz.ntmps38
 go_wp2_with (first
  | (go_at_call_of 62 (Value.slice ao xs.length cap); refine hT.mono ?_; rintro e w1 ⟨ao1, cap1, rfl, h1, f1, b1⟩)
  | (go_at_call_of 62 (Value.slice bo ys.length bcap); refine (hU _ b1).mono ?_; rintro e w2 ⟨ao2, cap2, rfl, h2, f2, b2⟩; have b3 := b1.trans (b2.mono b1.size))
  | (go_at_call 61; refine (hP _ _ _ _ _ (h1.below b2) h2).mono ?_; rintro e w3 ⟨ao3, cap3, rfl, h3, f3, b4⟩; have b5 := b3.trans (b4.mono b3.size))
  | (go_at_call 60; refine (hE _ _ _ h3).mono ?_; rintro e w4 ⟨ao4, cap4, rfl, h4, f4, b6⟩))
 go_ret
 exact ⟨_, _, rfl, h4, f4.mono b5.size, b5.trans (b6.mono b5.size)⟩
theorem bits_top {v m t : Nat} (hm : (lo v).length = m + 1) (ht : (lo v).getD m 0 = t) : 64 * m + bl t = bl v ∧ t ≠ 0 ∧ t < 18446744073709551616 := by
 have h0 : v ≠ 0 := fun h => by rw [h] at hm; simp [lo_zero] at hm
 have h1 := (lo_last h0).1
 rw [hm, show m + 1 - 1 = m by omega, ht] at h1
 have s := vl_take_succ (xs := lo v) (k := m) (by omega)
 rw [show m + 1 = (lo v).length by omega, List.take_length, vl_lo, ht] at s
 have b := bl_join (vl_take_lt (lo_lm v) m) h1
 rw [← s] at b
 exact ⟨b.symm, h1, by rw [← ht]; exact (lo_lm v).getD m⟩
theorem bl_half {t : Nat} (h : t ≠ 0) : bl (t / 2) + 1 = bl t := by
 have e := bl_div (v := t) (k := 1)
 have := bl_pos h
 rw [Nat.pow_one] at e
 omega
set_option maxHeartbeats 1000000 in
theorem natBits_any (xs : List Nat) (ao : Option Addr) (cap : Nat) (w : World) (hr : NS w ao cap xs) (hL : Lm xs) (hn : xs.length ≤ 17592186044416) :
  Calls Tryz.prog 41 #[.slice ao xs.length cap] w fun e w' => e = .returned (.int .i64 (bl (vl xs))) ∧ Below w.heap.size w w' := by
 have hT := natTrim_any xs ao cap w hr hL hn
 have hlen := lo_len hL
 obtain ⟨v, hv⟩ : ∃ v, vl xs = v := ⟨_, rfl⟩
 rw [hv] at hT hlen ⊢
 clear hv hr
 cases hm : (lo v).length with
 | zero =>
  have HE : Hid (bl v = 0) := (show bl v = 0 by
   have h := lo_length v
   rw [hm] at h
   unfold nl at h; omega)
  go_enter Tryz.func41, Tryz.ntmps41
  go_wp2_with (go_at_call 59; refine hT.mono ?_; rintro e w1 ⟨ao1, cap1, rfl, h3, h4, h5⟩; rw [hm] at *)
  go_ret
  exact ⟨retI (by rw [HE.out]; rfl), h5⟩
 | succ m =>
  obtain ⟨t, ht⟩ : ∃ t, (lo v).getD m 0 = t := ⟨_, rfl⟩
  obtain ⟨b1, b2, b3⟩ := bits_top hm ht
  have b4 : bl t ≤ 64 := bl_le_iff.2 b3
  have HB : Hid (64 * m + bl t = bl v) := b1
  have hmm : m < 17592186044416 := by omega
  have HM : Hid ((lo v).length = m + 1) := hm
  have hz : (((m + 1 : Nat) : Int) == 0) = false := by simp; omega
  have e1 : ((m + 1 : Nat) : Int) - 1 = (m : Int) := by omega
  clear hlen b1
  go_enter Tryz.func41, Tryz.ntmps41
  go_wp2_with (go_at_call 59; refine hT.mono ?_; rintro e w1 ⟨ao1, cap1, rfl, ⟨h3, _, _⟩, h4, h5⟩; (rcases h3 with h | ⟨b, off, rfl, hc⟩); (exact absurd h (by omega)); have g := hc m (by omega); rw [ht] at g; rw [hm]; clear hc)
  clear hm ht
  go_loopg [5, 4] (bl t) (fun g u n wr => ∃ x c : Nat, u = .int .u64 x ∧ n = .int .i64 ((64 * m + c : Nat) : Int) ∧ x < 18446744073709551616 ∧ bl x + c = bl t ∧ g = bl x ∧ wr = w1)
  case atStart => exact ⟨t, 0, rfl, by go_num, b3, by omega, rfl, rfl⟩
  case round =>
   obtain ⟨x, c, rfl, rfl, hx, hc, hg, rfl⟩ := hrel
   by_cases hx0 : x = 0
   ·subst hx0
    have HC : Hid (c = bl t) := (show c = bl t by rw [bl_zero] at hc; omega)
    clear hc
    go_wp2
    go_ret
    exact ⟨retI (by rw [← HB.out, HC.out]), h5⟩
   ·have hh := bl_half hx0
    have h1 : (0 : Int) < (x : Int) := by omega
    have HX : Hid (((x / 2 : Nat) : Int) = (x : Int) / 2) := (show ((x / 2 : Nat) : Int) = (x : Int) / 2 by omega)
    have HN : Hid (bl (x / 2) + (c + 1) = bl t) := (show _ = _ by omega)
    have hcl : c ≤ 64 := by omega
    clear hc hh
    go_wp2
    go_roundg (bl (x / 2))
    case measure => have := bl_half hx0; omega
    case rel => exact ⟨x / 2, c + 1, by go_num, by go_num, by omega, HN.out, rfl, rfl⟩
theorem nl_mono {a b : Nat} (h : a ≤ b) : nl a ≤ nl b := nl_le (Nat.lt_of_le_of_lt h (nl_fits b))
theorem lo_digit (v i : Nat) : (lo v).getD i 0 = v / 2 ^ (64 * i) % 18446744073709551616 := by rw [vl_digit (lo_lm v), vl_lo]
theorem quietB2 {w : World} (n m : Nat) : Below w.heap.size w ((w.drewN n).drewN m) := ⟨rfl, rfl, rfl, Nat.le_refl _, fun _ _ => rfl⟩
theorem quietB3 {w : World} (n m k : Nat) : Below w.heap.size w (((w.drewN n).drewN m).drewN k) := ⟨rfl, rfl, rfl, Nat.le_refl _, fun _ _ => rfl⟩
theorem cmp_start {a b : Nat} (h : (lo a).length = (lo b).length) : a / 2 ^ (64 * (lo a).length) = b / 2 ^ (64 * (lo a).length) := by
 have h1 := nl_fits a
 have h2 := nl_fits b
 rw [← lo_length] at h1 h2
 rw [Nat.div_eq_of_lt h1, Nat.div_eq_of_lt (by rw [h]; exact h2)]
theorem sg_lt {a b : Nat} (h : a < b) : sgI ((a : Int) - b) = -1 := by unfold sgI; rw [if_pos (by omega)]
theorem sg_gt {a b : Nat} (h : b < a) : sgI ((a : Int) - b) = 1 := by unfold sgI; rw [if_neg (by omega), if_neg (by omega)]
theorem sg_eq {a b : Nat} (h : a = b) : sgI ((a : Int) - b) = 0 := by unfold sgI; rw [if_neg (by omega), if_pos (by omega)]
set_option maxHeartbeats 2000000 in
theorem natCmp_any (xs ys : List Nat) (ao bo : Option Addr) (cap bcap : Nat) (w : World) (hr : NS w ao cap xs) (hs : NS w bo bcap ys) (hL : Lm xs) (hM : Lm ys) (hn : xs.length ≤ 17592186044416) (hm : ys.length ≤ 17592186044416) :
  Calls Tryz.prog 44 #[.slice ao xs.length cap, .slice bo ys.length bcap] w fun e w' => e = .returned (.int .i64 (sgI ((vl xs : Int) - (vl ys : Int)))) ∧ Below w.heap.size w w' := by
 have hT := natTrim_any xs ao cap w hr hL hn
 have hU := fun w1 (hb : Below w.heap.size w w1) => natTrim_any ys bo bcap w1 (hs.below hb) hM hm
 have l1 := lo_len hL
 have l2 := lo_len hM
 obtain ⟨a, ha⟩ : ∃ a, vl xs = a := ⟨_, rfl⟩
 obtain ⟨b, hb⟩ : ∃ b, vl ys = b := ⟨_, rfl⟩
 rw [ha] at hT l1 ⊢
 rw [hb] at hU l2 ⊢
 clear ha hb hr hs
 by_cases hne : (lo a).length = (lo b).length
 ·have hne1 : (((lo a).length : Int) != ((lo b).length : Int)) = false := by rw [hne]; simp
  have HN : Hid ((lo a).length = (lo b).length) := hne
  clear hne
  go_enter Tryz.func44, Tryz.ntmps44
  go_wp2_with (first
   | (go_at_call_of 59 (Value.slice ao xs.length cap); refine hT.mono ?_; rintro e w1 ⟨ao1, cap1, rfl, h1, f1, b1⟩)
   | (go_at_call_of 59 (Value.slice bo ys.length bcap); refine (hU _ b1).mono ?_; rintro e w2 ⟨ao2, cap2, rfl, h2, f2, b2⟩; have b3 := b1.trans (b2.mono b1.size)))
  have h1' := h1.1.below b2
  have h2' := h2.1
  clear h1 h2 hT hU
  go_loopg [7] (lo a).length (fun g i wr => ∃ k n : Nat, k ≤ (lo a).length ∧ g = k ∧ i = .int .i64 ((k : Int) - 1) ∧ Hid (a / 2 ^ (64 * k) = b / 2 ^ (64 * k)) ∧ wr = w2.drewN n)
  case atStart => exact ⟨(lo a).length, 0, Nat.le_refl _, rfl, rfl, cmp_start HN.out, rfl⟩
  case round =>
   obtain ⟨k, n, hk, hg, rfl, hz, rfl⟩ := hrel
   by_cases h0 : k = 0
   ·subst h0
    have HE : Hid (a = b) := (show a = b by simpa using hz.out)
    go_wp2
    go_ret
    exact ⟨retI (sg_eq HE.out).symm, b3.trans (quietB n |>.mono b3.size)⟩
   ·obtain ⟨j, rfl⟩ : ∃ j, k = j + 1 := ⟨k - 1, by omega⟩
    have e1 : ((j + 1 : Nat) : Int) - 1 = (j : Int) := by omega
    rcases h1' with h | ⟨p, off, rfl, hc⟩
    ·omega
    ·rcases h2' with h | ⟨p2, off2, rfl, hc2⟩
     ·have := HN.out; omega
     ·have g1 := hc j (by omega)
      have g2 := hc2 j (by have := HN.out; omega)
      have i1 : (j : Int) < ((lo a).length : Int) := by omega
      have i2 : (j : Int) < ((lo b).length : Int) := by have := HN.out; omega
      have HX : Hid ((lo a).getD j 0 = a / 2 ^ (64 * j) % 18446744073709551616 ∧ (lo b).getD j 0 = b / 2 ^ (64 * j) % 18446744073709551616) := ⟨lo_digit a j, lo_digit b j⟩
      have HP : Hid ((a / 2 ^ (64 * (j + 1)) = b / 2 ^ (64 * (j + 1))) ∧ (b / 2 ^ (64 * (j + 1)) = a / 2 ^ (64 * (j + 1)))) := ⟨hz.out, hz.out.symm⟩
      obtain ⟨x, hx⟩ : ∃ x, (lo a).getD j 0 = x := ⟨_, rfl⟩
      obtain ⟨y, hy⟩ : ∃ y, (lo b).getD j 0 = y := ⟨_, rfl⟩
      rw [hx, hy] at HX
      rw [hx] at g1
      rw [hy] at g2
      clear hc hc2 hx hy hz
      rcases Nat.lt_trichotomy x y with hxy | hxy | hxy
      ·have HE : Hid (a < b) := (show a < b from (top_step HP.out.1).2 (by rw [← HX.out.1, ← HX.out.2]; exact hxy))
       have hl1 : (x : Int) < (y : Int) := by omega
       go_wp2
       go_quiet (fail)
       go_wp2
       go_ret
       exact ⟨retI (sg_lt HE.out).symm, b3.trans (quietB2 _ _ |>.mono b3.size)⟩
      ·have HE : Hid (a / 2 ^ (64 * j) = b / 2 ^ (64 * j)) := (show _ = _ from (top_step HP.out.1).1 (by rw [← HX.out.1, ← HX.out.2]; exact hxy))
       subst hxy
       go_wp2
       go_quiet (fail)
       go_wp2
       go_quiet (fail)
       go_wp2
       go_roundg j
       case measure => omega
       case rel => exact ⟨j, _, by omega, rfl, by go_num, HE, by rfl⟩
      ·have HE : Hid (b < a) := (show b < a from (top_step HP.out.2).2 (by rw [← HX.out.1, ← HX.out.2]; exact hxy))
       have hl1 : ¬ (x : Int) < (y : Int) := by omega
       have hl2 : (y : Int) < (x : Int) := by omega
       go_wp2
       go_quiet (fail)
       go_wp2
       go_quiet (fail)
       go_wp2
       go_ret
       exact ⟨retI (sg_gt HE.out).symm, b3.trans (quietB3 _ _ _ |>.mono b3.size)⟩
 ·have hne1 : (((lo a).length : Int) != ((lo b).length : Int)) = true := by simp; omega
  have hab : (lo a).length < (lo b).length → a < b := fun h => by
   rw [lo_length, lo_length] at h
   exact Nat.lt_of_not_le fun g => by have := nl_mono g; omega
  have hba : (lo b).length < (lo a).length → b < a := fun h => by
   rw [lo_length, lo_length] at h
   exact Nat.lt_of_not_le fun g => by have := nl_mono g; omega
  by_cases hl : (lo a).length < (lo b).length
  ·have HE : Hid (a < b) := hab hl
   have hl1 : ((lo a).length : Int) < ((lo b).length : Int) := by omega
   clear hab hba hne
   go_enter Tryz.func44, Tryz.ntmps44
   go_wp2_with (first
    | (go_at_call_of 59 (Value.slice ao xs.length cap); refine hT.mono ?_; rintro e w1 ⟨ao1, cap1, rfl, h1, f1, b1⟩)
    | (go_at_call_of 59 (Value.slice bo ys.length bcap); refine (hU _ b1).mono ?_; rintro e w2 ⟨ao2, cap2, rfl, h2, f2, b2⟩; have b3 := b1.trans (b2.mono b1.size)))
   go_ret
   exact ⟨retI (sg_lt HE.out).symm, b3⟩
  ·have HE : Hid (b < a) := hba (by omega)
   have hl1 : ¬ ((lo a).length : Int) < ((lo b).length : Int) := by omega
   clear hab hba hne
   go_enter Tryz.func44, Tryz.ntmps44
   go_wp2_with (first
    | (go_at_call_of 59 (Value.slice ao xs.length cap); refine hT.mono ?_; rintro e w1 ⟨ao1, cap1, rfl, h1, f1, b1⟩)
    | (go_at_call_of 59 (Value.slice bo ys.length bcap); refine (hU _ b1).mono ?_; rintro e w2 ⟨ao2, cap2, rfl, h2, f2, b2⟩; have b3 := b1.trans (b2.mono b1.size)))
   go_ret
   exact ⟨retI (sg_gt HE.out).symm, b3⟩
end Go.Proofs.YtfipmopmpacdaaaGreatDoor
