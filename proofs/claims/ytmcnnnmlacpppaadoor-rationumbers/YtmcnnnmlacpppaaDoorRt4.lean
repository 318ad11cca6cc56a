/- What takeOff answers. -/
import Derived.Test.YtmcnnnmlacpppaaDoorRt3
namespace Go.Proofs.YtmcnnnmlacpppaaDoor
open Go.RowKit

/-- What takeOff leaves: the remainder, and how often. -/
def GaveO (w : World) (g L : Nat) (f : Nat → Nat) (off m U V : Nat) (e : Ending) (w' : World) : Prop :=
  ∃ out, e = .returned (.int .u64 ((U / V : Nat) : Int)) ∧ Lm out ∧ out.length = m ∧ vl out = U % V ∧ FRow w' g L (laidF f off m out) ∧ Keep g w w'
theorem vF_lt {n : Nat} {f : Nat → Nat} (h : ∀ j, j < n → f j < 18446744073709551616) : vF n f < 2 ^ (64 * n) := by
  have := vl_lt (toL_lm h)
  rw [toL_length, toL_vl] at this
  exact this
/-- The row taken off and put back: what holds meanwhile. -/
structure OffS (U V M q l : Nat) (out : List Nat) (n : Nat) : Prop where
  lm : Lm out
  len : out.length = n + 1
  l1 : l ≤ 1
  e : vl out + q * V = U + M * l
  g : U / V ≤ q
theorem OffS.stop {U V M q : Nat} {out : List Nat} {n : Nat} (h : OffS U V M q 0 out n) (hV : 0 < V) : q = U / V ∧ vl out = U % V := by
  have e := h.e
  have m := Nat.mod_add_div U V
  have hq : q ≤ U / V := (Nat.le_div_iff_mul_le hV).2 (by omega)
  have : q = U / V := Nat.le_antisymm hq h.g
  subst this
  rw [Nat.mul_comm] at m
  omega
theorem OffS.more {U V M q l : Nat} {out : List Nat} {n : Nat} (h : OffS U V M q l out n) (hl : l ≠ 0) (hM : M = 2 ^ (64 * (n + 1))) (_hV : 0 < V) : 1 ≤ q ∧ U / V ≤ q - 1 := by
  have e := h.e
  have b := vl_lt h.lm
  rw [h.len, ← hM] at b
  have l1 : l = 1 := by have := h.l1; omega
  subst l1
  have hq : U / V < q := by
    refine Nat.lt_of_not_le fun hle => ?_
    have := Nat.mul_le_mul_right V hle
    have := Nat.div_mul_le_self U V
    omega
  generalize U / V = k at *
  omega
theorem OffS.next {U V M q c : Nat} {out o2 ys : List Nat} {n : Nat} (h : OffS U V M q 1 out n) (hM : M = 2 ^ (64 * (n + 1))) (hV : V = vl ys) (hl : ys.length = n) (hq : 1 ≤ q) (hg : U / V ≤ q - 1) (hR : Rowed (out.take n) ys 1 n o2 c) :
    OffS U V M (q - 1) (1 - (out.getD n 0 + c) / 18446744073709551616) (o2 ++ [(out.getD n 0 + c) % 18446744073709551616]) n ∧ (out.getD n 0 + c) / 18446744073709551616 ≤ 1 := by
  obtain ⟨r1, r2, r3, r4⟩ := hR
  have hy := h.lm.getD n
  rw [List.take_of_length_le (show (out.take n).length ≤ n by rw [List.length_take]; omega), List.take_of_length_le (show ys.length ≤ n by omega), Nat.mul_one, ← hV] at r4
  have e1 := vl_take_succ (xs := out) (k := n) (by rw [h.len]; omega)
  rw [List.take_of_length_le (by rw [h.len]; omega)] at e1
  obtain ⟨y, hyy⟩ : ∃ y, out.getD n 0 = y := ⟨_, rfl⟩
  rw [hyy] at hy e1 ⊢
  have d1 : (y + c) / 18446744073709551616 ≤ 1 := by omega
  have e2 : vl (o2 ++ [(y + c) % 18446744073709551616]) = vl o2 + 2 ^ (64 * n) * ((y + c) % 18446744073709551616) := by rw [vl_append, r2]; simp [vl]
  have em := Nat.mod_add_div (y + c) 18446744073709551616
  refine ⟨⟨r1.snoc (Nat.mod_lt _ (by omega)), by simp [r2], by omega, ?_, hg⟩, d1⟩
  have e := h.e
  rw [e2]
  rw [pow64_succ] at hM
  generalize (y + c) % 18446744073709551616 = s at *
  generalize (y + c) / 18446744073709551616 = d at *
  generalize 2 ^ (64 * n) = P at *
  have f1 : P * s + 18446744073709551616 * P * d = P * y + P * c := by
    rw [Nat.mul_comm 18446744073709551616 P, Nat.mul_assoc, ← Nat.mul_add, em, Nat.mul_add]
  have f2 : (q - 1) * V + V = q * V := by
    obtain ⟨k, rfl⟩ : ∃ k, q = k + 1 := ⟨q - 1, by omega⟩
    rw [Nat.add_sub_cancel, Nat.add_mul, Nat.one_mul]
  rw [← hM] at f1
  have hd : d = 0 ∨ d = 1 := by omega
  rcases hd with rfl | rfl
  · omega
  · omega
theorem laid_twice {f : Nat → Nat} {off n : Nat} {out o2 : List Nat} {s : Nat} (h2 : o2.length = n) (j : Nat) : (if j = off + n then s else laidF (laidF f off (n + 1) out) off n o2 j) = laidF f off (n + 1) (o2 ++ [s]) j := by
  rw [← laidF_snoc h2]
  by_cases h : j = off + n
  · rw [if_pos h, if_pos h]
  · rw [if_neg h, if_neg h]
    unfold laidF
    by_cases h3 : off ≤ j ∧ j < off + n
    · rw [if_pos h3, if_pos h3]
    · rw [if_neg h3, if_neg h3, if_neg (by omega)]
theorem top_two {n : Nat} {fo : Nat → Nat} (h : ∀ j, j < n + 2 → fo j < 18446744073709551616) : vF (n + 2) fo < (fo (n + 1) * 18446744073709551616 + fo n + 1) * 2 ^ (64 * n) := by
  have a := vF_lt (n := n) (f := fo) (fun j hj => h j (by omega))
  rw [vF, vF, pow64_succ]
  generalize 2 ^ (64 * n) = P at *
  have e : (fo (n + 1) * 18446744073709551616 + fo n + 1) * P = 18446744073709551616 * P * fo (n + 1) + P * fo n + P := by grind
  omega
theorem top_one {ys : List Nat} {n : Nat} (hl : ys.length = n + 1) : ys.getD n 0 * 2 ^ (64 * n) ≤ vl ys := by
  have e1 := vl_take_succ (xs := ys) (k := n) (by omega)
  rw [List.take_of_length_le (by omega)] at e1
  rw [e1, Nat.mul_comm]
  omega
set_option maxRecDepth 100000 in
set_option maxHeartbeats 1000000 in
theorem takeOff_any (g L off cap capT : Nat) (f : Nat → Nat) (ys : List Nat) (bo : Option Addr) (w : World) (hrow : FRow w g L f) (hf : ∀ j, j < ys.length + 1 → f (off + j) < 18446744073709551616) (hr : LRow w bo ys) (ha : Apt g bo) (hM : Lm ys)
    (n0 : 0 < ys.length) (hoff : off + (ys.length + 1) ≤ L) (hn : ys.length ≤ 100000) (hct : ys.length + 1 ≤ capT) (hV : 0 < vl ys) (hU : vF (ys.length + 1) (fun j => f (off + j)) < vl ys * 18446744073709551616) :
    Calls Tryd.prog 66 #[.slice (some ⟨g, off, none⟩) (ys.length + 1) capT, .slice bo ys.length cap] w (GaveO w g L f off (ys.length + 1) (vF (ys.length + 1) (fun j => f (off + j))) (vl ys)) := by
  obtain ⟨n, en⟩ : ∃ n, ys.length = n + 1 := ⟨ys.length - 1, by omega⟩
  obtain ⟨U, eU⟩ : ∃ U, vF (ys.length + 1) (fun j => f (off + j)) = U := ⟨_, rfl⟩
  have HF : Hid (∀ j, j < ys.length + 1 → f (off + j) < 18446744073709551616) := hf
  have g1 := hrow.cell (i := off + ys.length) (by omega)
  have g2 := hrow.cell (i := off + n) (by omega)
  have l1 := hf ys.length (by omega)
  have l2 := hf n (by omega)
  have l3 := hM.getD n
  have HT : Hid (U < (f (off + (n + 1)) * 18446744073709551616 + f (off + n) + 1) * 2 ^ (64 * n)) := (show _ < _ by
    rw [← eU, en]
    exact top_two (fo := fun j => f (off + j)) (fun j hj => hf j (by omega)))
  have HT2 : Hid (ys.getD n 0 * 2 ^ (64 * n) ≤ vl ys) := top_one en
  have HQ : Hid (U / vl ys ≤ 18446744073709551615) := (show _ ≤ _ by
    have : U / vl ys < 18446744073709551616 := Nat.div_lt_of_lt_mul (by rw [← eU]; exact hU)
    omega)
  rw [eU]
  have HU : Hid _ := eU
  clear eU hU hf
  have hrr := hr
  rcases hrr with h | ⟨b, o, rfl, hc⟩
  · omega
  have g3 := hc n (by omega)
  clear hc
  rw [← en] at HT
  obtain ⟨u1, e1⟩ : ∃ u1, f (off + ys.length) = u1 := ⟨_, rfl⟩
  obtain ⟨u0, e0⟩ : ∃ u0, f (off + n) = u0 := ⟨_, rfl⟩
  obtain ⟨v, ev⟩ : ∃ v, ys.getD n 0 = v := ⟨_, rfl⟩
  rw [e1] at l1 HT
  rw [e0] at l2 HT
  rw [ev] at l3 g3 HT2
  replace g1 : w.cell? ⟨g, off + ys.length, none⟩ = some (.int .u64 u1) := by rw [g1, e1]
  replace g2 : w.cell? ⟨g, off + n, none⟩ = some (.int .u64 u0) := by rw [g2, e0]
  clear e1 e0 ev
  have i1 : (ys.length : Int) - 1 = (n : Int) := by omega
  have i2 : (n : Int) < (ys.length : Int) := by omega
  have i3 : (n : Int) < (ys.length : Int) + 1 := by omega
  have i4 : (ys.length : Int) < (ys.length : Int) + 1 := by omega
  have i5 : n < ys.length + 1 := by omega
  have i6 : n ≤ ys.length := by omega
  have i7 : (n : Int) ≤ (ys.length : Int) := by omega
  have i8 : (n : Int) < ((ys.length + 1 : Nat) : Int) := by omega
  have i9 : n < ys.length := by omega
  have hw64 : IntKind.i64.wrap ((ys.length : Int) - 1) = (n : Int) := by rw [IntKind.wrap_i64]; omega
  have hwn : IntKind.i64.wrap (n : Int) = (n : Int) := by rw [IntKind.wrap_i64]; omega
  have EN : Hid _ := en
  clear en
  go_enter Tryd.func66, Tryd.ntmps66
  go_upto_region 3 with fail
  go_quiet (fail)
  have A0 := Alike.drewN (w := w) nq
  generalize w.drewN nq = wA at *
  replace g1 := (A0.cell _).trans g1
  replace g2 := (A0.cell _).trans g2
  replace g3 := (A0.cell _).trans g3
  go_upto_if 20 with fail
  go_cut [6] from 9 (fun s6 wx => ∃ q : Nat, s6 = .int .u64 q ∧ q < 18446744073709551616 ∧ Hid (U / vl ys ≤ q) ∧ ∃ k, wx = wA.drewN k)
  case first =>
    by_cases hlt : u1 < v
    · have t1 : (u1 : Int) < (v : Int) := by omega
      obtain ⟨r, hd⟩ := div64_ex u1 u0 v hlt l3 l2
      have hq : (u1 * 18446744073709551616 + u0) / v < 18446744073709551616 := Nat.div_lt_of_lt_mul (by have := Nat.mul_le_mul_right 18446744073709551616 hlt; rw [Nat.succ_mul] at this; rw [Nat.mul_comm v]; omega)
      have HG : Hid (U / vl ys ≤ (u1 * 18446744073709551616 + u0) / v) := guess_ge (Nat.two_pow_pos _) (by omega) HT.out HT2.out
      obtain ⟨q, eq⟩ : ∃ q, (u1 * 18446744073709551616 + u0) / v = q := ⟨_, rfl⟩
      rw [eq] at hd hq HG
      clear eq
      have hdq : ∀ k, Calls Tryd.prog 83 #[.int .u64 u1, .int .u64 u0, .int .u64 v] (wA.drewN k) fun e w' => e = .returned (.tuple #[.int .u64 q, .int .u64 r]) ∧ ∃ k, w' = wA.drewN k := fun k => (hd _).mono fun e w' ⟨h1, m, h2⟩ => ⟨h1, _, h2.trans (World.drewN_drewN _ _ _)⟩
      go_upto_region 4 with fail
      go_quiet ((go_at_call 83; exact hdq _))
      go_wp2
      go_meet
      exact ⟨q, rfl, hq, HG, _, rfl⟩
    · have t1 : ¬ (u1 : Int) < (v : Int) := by omega
      go_wp2
      go_meet
      exact ⟨18446744073709551615, rfl, by omega, HQ, 0, rfl⟩
  obtain ⟨q, rfl, hq, HG, k, h'⟩ := hcut
  have A1 : Alike w wc := A0.trans (by rw [h']; exact Alike.drewN k)
  clear h' g1 g2 g3 i1 i2 i3 i5 i6 i7 i8 i9 hw64 hwn HT HT2 HQ l1 l2 l3 A0
  have hrow1 := A1.frow hrow
  have hk1 := A1.keep g
  have ct := takeTimes_any g L off (ys.length + 1) q cap capT f ys (some ⟨b, o, none⟩) wc hrow1 HF.out (A1.lrow hr) ha hM (by omega) hoff (by omega) hq hct
  have eM : Hid ((2 : Nat) ^ (64 * (ys.length + 1)) = 2 ^ (64 * (ys.length + 1))) := rfl
  obtain ⟨M, hMM⟩ : ∃ M, 2 ^ (64 * (ys.length + 1)) = M := ⟨_, rfl⟩
  have HMM : Hid _ := hMM
  clear hMM eM
  go_wp2_with (go_at_call 84; refine ct.mono ?_; rintro e w2 ⟨out, c, rfl, o1, o2, o3, o4, hrow2, hk2⟩)
  have hk3 := hk1.trans hk2
  have hS : Hid (OffS U (vl ys) M q c out ys.length) := ⟨o1, o2, o3, by have h1 := HMM.out; have h2 := HU.out; rw [h2, h1, Nat.mul_comm] at o4; exact o4, HG.out⟩
  clear ct hk1 hrow1 o1 o2 o3 o4 hk2 HG A1
  go_loopg [6, 7, 8] q (fun gg s6 s7 s8 wr => ∃ (q l : Nat) (out : List Nat), gg = q ∧ s6 = .int .u64 q ∧ s7 = .int .u64 l ∧ q < 18446744073709551616 ∧ Hid (OffS U (vl ys) M q l out ys.length) ∧ FRow wr g L (laidF f off (ys.length + 1) out) ∧ Keep g w wr)
  case atStart => exact ⟨q, c, out, rfl, rfl, rfl, hq, hS, hrow2, hk3⟩
  case round =>
    clear hS hrow2 hk3 hq
    obtain ⟨q, l, out, hg, rfl, rfl, hq, hS, hrw, hkw⟩ := hrel
    have HG : Hid _ := hg
    clear hg
    by_cases hl : l = 0
    · subst hl
      have hst := hS.out.stop hV
      have hl1 := hS.out.lm
      have hl2 := hS.out.len
      have HE : Hid _ := hst
      clear hst
      go_wp2
      go_ret
      exact ⟨out, congrArg (fun z : Nat => Ending.returned (.int .u64 (z : Int))) HE.out.1, hl1, hl2, HE.out.2, hrw, hkw⟩
    · have l1 : l = 1 := by have := hS.out.l1; omega
      subst l1
      obtain ⟨q1, q2⟩ := hS.out.more (by omega) HMM.out.symm hV
      have Q2 : Hid _ := q2
      clear q2
      have hol := hS.out.len
      have hlm := hS.out.lm
      obtain ⟨F, eF⟩ : ∃ F, laidF f off (ys.length + 1) out = F := ⟨_, rfl⟩
      have eFy : F (off + ys.length) = out.getD ys.length 0 := by rw [← eF]; unfold laidF; rw [if_pos (by omega), Nat.add_sub_cancel_left]
      have eFt : ∀ j, j < ys.length → F (off + j) = (out.take ys.length).getD j 0 := fun j hj => by
        rw [← eF]; unfold laidF; rw [if_pos (by omega), Nat.add_sub_cancel_left]
        simp only [List.getD_eq_getElem?_getD, List.getElem?_take, if_pos hj]
      rw [eF] at hrw
      have g1 := hrw.cell (i := off + ys.length) (by omega)
      have g2 := World.rowIs.frozen hrw (off + ys.length)
      have hyl := hlm.getD ys.length
      have hN := fun {c : Nat} {o2 : List Nat} => hS.out.next (c := c) (o2 := o2) (ys := ys) HMM.out.symm rfl rfl q1 Q2.out
      have hta : Lm (out.take ys.length) := hlm.take _
      have htl : (out.take ys.length).length = ys.length := by rw [List.length_take]; omega
      have ck := fun w' (hr' : FRow w' g L F) (hk' : Keep g w w') => addTimesK_any w' ys (out.take ys.length) (some ⟨b, o, none⟩) cap capT g L off 1 F (hk'.lrow hr ha) ha hr' hM hta htl eFt (by omega) (by omega) (by omega) (by omega) (by omega)
      rw [eFy] at g1
      obtain ⟨y, ey⟩ : ∃ y, out.getD ys.length 0 = y := ⟨_, rfl⟩
      rw [ey] at g1 hyl
      simp only [ey] at hN
      have HN : Hid _ := @hN
      have HFy : Hid _ := eFy
      have HeF : Hid _ := eF
      have HEy : Hid _ := ey
      clear hN eFy eF ey eFt hta htl
      have w1 : IntKind.u64.wrap ((q : Int) - 1) = ((q - 1 : Nat) : Int) := by rw [IntKind.wrap_u64]; omega
      have j1 : (ys.length : Int) ≤ (capT : Int) := by omega
      have j2 : (ys.length : Int) < (ys.length : Int) + 1 := by omega
      have ckd := ck wr.drew hrw hkw.drew
      go_upto_region 9 with fail
      go_region_with
        ((go_at_call 72; refine ckd.mono ?_; rintro e w3 ⟨o3, c3, rfl, hR, hrow3, hk3⟩; have kc : c3 < 18446744073709551616 := hR.2.2.1; have g3 := hrow3.cell (i := off + ys.length) (by omega); have g4 := World.rowIs.frozen hrow3 (off + ys.length); rw [show laidF F off ys.length o3 (off + ys.length) = y by unfold laidF; rw [if_neg (by omega), HFy.out, HEy.out]] at g3; have ha0 := fun w => add64_0 (y : Int) (c3 : Int) (by omega) (by omega) w))
      all_goals
        have hR := hR
        have hr2 : o3.length = ys.length := hR.2.1
        obtain ⟨hO, hd1⟩ := HN.out hR
        obtain ⟨d, ed⟩ : ∃ d, (y + c3) / 18446744073709551616 = d := ⟨_, rfl⟩
        obtain ⟨s, es⟩ : ∃ s, (y + c3) % 18446744073709551616 = s := ⟨_, rfl⟩
        rw [ed] at hd1 hO
        rw [es] at hO
        have ed' : ((y : Int) + (c3 : Int)) / 18446744073709551616 = (d : Int) := by omega
        have es' : ((y : Int) + (c3 : Int)) % 18446744073709551616 = (s : Int) := by omega
        rw [ed', es']
        have hset := hrow3.set (off + ys.length) s
        have hks := (hkw.drew.trans hk3).setCell (off + ys.length) (.int .u64 (s : Int))
        have HO : Hid _ := hO
        have w2 : IntKind.u64.wrap (1 - (d : Int)) = ((1 - d : Nat) : Int) := by rw [IntKind.wrap_u64]; omega
        clear hO hR ed es ed' es' g3 g4 ha0 hrow3 hk3 ck ckd
        go_wp2
        go_roundg (q - 1)
        case measure => rw [HG.out]; omega
        case rel => exact ⟨q - 1, 1 - d, o3 ++ [s], rfl, rfl, rfl, by omega, HO.out, hset.congr (fun j _ => by rw [← HeF.out]; exact laid_twice hr2 j), hks⟩
end Go.Proofs.YtmcnnnmlacpppaaDoor
