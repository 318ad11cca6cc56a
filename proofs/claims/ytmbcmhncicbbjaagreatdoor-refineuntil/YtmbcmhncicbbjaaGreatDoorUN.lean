/- RefineUntil: the walk. -/
import Derived.Test.YtmbcmhncicbbjaaGreatDoorST
import Derived.Test.YtmbcmhncicbbjaaGreatDoorRF
import Derived.Test.YtmbcmhncicbbjaaGreatDoorLF
import Derived.Test.YtmbcmhncicbbjaaGreatDoorU4
import Derived.Test.YtmbcmhncicbbjaaGreatDoorSL
import Derived.Test.YtmbcmhncicbbjaaGreatDoorLf5
namespace Go.Proofs.YtmbcmhncicbbjaaGreatDoor
open Go.RowKit

/-- What Until answers, whatever the number of steps. -/
def uzA (r c : Int) (ms : List Nat) (n : Int) (ls ds bs : List Nat) (m : Int) : List Nat × Nat × Int := if 0 ≤ m ∧ m ≤ 64 then unA r c ms n ls ds bs m.toNat else ([], 0, 2)
set_option maxHeartbeats 1000000 in
theorem until_out (r c n m : Int) (ao lo dO bo : Option Addr) (mn cap ln lc dn dc bn bc : Nat) (w : World) (h : ¬ (0 ≤ m ∧ m ≤ 64)) :
    Calls Tryz.prog 19 #[mxV r c ao mn cap, fcV n lo ln lc dO dn dc, .slice bo bn bc, .int .i64 m] w fun e w' => GaveU w ([], 0, 2) e w' := by
  have B0 : Below w.heap.size w ((w.alloc (.cells #[.int .i64 r, .int .i64 c, .slice ao mn cap] 24)).alloc (.cells #[.int .i64 n, .slice lo ln lc, .slice dO dn dc] 36)) := old_two (Below.refl _ _)
  by_cases h1 : m < 0
  · clear h
    go_enter Tryz.func19, Tryz.ntmps19
    go_wp2
    exact bodyPost_ret (v := .tuple #[.slice none 0 0, .int .i64 0, .int .i64 2]) (by simp [results, Tryz.results19, go_sem]) rfl (GaveU.none 2 B0)
  · have h2 : 64 < m := by omega
    clear h
    go_enter Tryz.func19, Tryz.ntmps19
    go_wp2
    exact bodyPost_ret (v := .tuple #[.slice none 0 0, .int .i64 0, .int .i64 2]) (by simp [results, Tryz.results19, go_sem]) rfl (GaveU.none 2 B0)
set_option maxHeartbeats 1000000 in
theorem duntil_out (r c n m : Int) (ao lo dO bo : Option Addr) (mn cap ln lc dn dc bn bc : Nat) (w : World) (h : ¬ (0 ≤ m ∧ m ≤ 64)) :
    Calls Tryz.prog 20 #[mxV r c ao mn cap, fcV n lo ln lc dO dn dc, .slice bo bn bc, .int .i64 m] w fun e w' => GaveU w ([], 0, 2) e w' := by
  have B0 : Below w.heap.size w ((w.alloc (.cells #[.int .i64 r, .int .i64 c, .slice ao mn cap] 24)).alloc (.cells #[.int .i64 n, .slice lo ln lc, .slice dO dn dc] 36)) := old_two (Below.refl _ _)
  by_cases h1 : m < 0
  · clear h
    go_enter Tryz.func20, Tryz.ntmps20
    go_wp2
    exact bodyPost_ret (v := .tuple #[.slice none 0 0, .int .i64 0, .int .i64 2]) (by simp [results, Tryz.results20, go_sem]) rfl (GaveU.none 2 B0)
  · have h2 : 64 < m := by omega
    clear h
    go_enter Tryz.func20, Tryz.ntmps20
    go_wp2
    exact bodyPost_ret (v := .tuple #[.slice none 0 0, .int .i64 0, .int .i64 2]) (by simp [results, Tryz.results20, go_sem]) rfl (GaveU.none 2 B0)
set_option maxHeartbeats 1000000 in
theorem dfits_no (r c n : Int) (ao lo dO : Option Addr) (mn cap ln lc dn dc : Nat) (w : World) (hM : rightM r c mn = false) :
    Calls Tryz.prog 38 #[mxV r c ao mn cap, fcV n lo ln lc dO dn dc] w fun e w' => e = .returned (.bool false) ∧ Below w.heap.size w w' := by
  have cm := fun W => rright_any r c ao mn cap W
  rw [hM] at cm
  clear hM
  have S0 := TwoB.new w r c ao mn cap n lo ln lc dO dn dc
  go_enter Tryz.func38, Tryz.ntmps38
  go_wp2_with (go_at_call 51; refine (cm _).mono ?_; rintro e w1 ⟨rfl, b1⟩; have S1 := S0.later b1)
  go_ret
  exact ⟨rfl, S1.below⟩
end Go.Proofs.YtmbcmhncicbbjaaGreatDoor

namespace Go.Proofs.YtmbcmhncicbbjaaGreatDoor
open Go.RowKit

/-- What the loop's list is. -/
structure DuS (w wr : World) (xs : List Nat) (xo : Option Addr) (xc : Nat) : Prop where
  rx : GRow wr xo xs
  fx : FW xs
  cx : xs.length ≤ xc
  nx : xs.length ≤ 48
  hx : Frs w.heap.size xo
theorem DuS.later {w wr w1 : World} {xs : List Nat} {xo : Option Addr} {xc : Nat} (h : DuS w wr xs xo xc) (hb : Below wr.heap.size wr w1) : DuS w w1 xs xo xc := ⟨h.rx.below hb, h.fx, h.cx, h.nx, h.hx⟩
set_option maxRecDepth 100000 in
set_option maxHeartbeats 4000000 in
theorem duntil_any (r c : Int) (ms : List Nat) (n : Int) (ls ds bs : List Nat) (most : Nat) (ao lo dO bo : Option Addr) (cap lc dc bc : Nat) (w : World) (hm : most ≤ 64) (hM : GRow w ao ms) (hL : GRow w lo ls) (hD : GRow w dO ds) (hB : GRow w bo bs) (fM : FW ms) (fL : FW ls) (fD : FW ds) (fB : FW bs) (lM : ms.length ≤ 1125899906842624) (lB : bs.length ≤ 1125899906842624) :
    Calls Tryz.prog 20 #[mxV r c ao ms.length cap, fcV n lo ls.length lc dO ds.length dc, .slice bo bs.length bc, .int .i64 most] w fun e w' => GaveU w (unA r c ms n ls ds bs most) e w' := by
  have S0 := TwoB.new w r c ao ms.length cap n lo ls.length lc dO ds.length dc
  have j1 : ¬ (most : Int) < 0 := by omega
  have j2 : ¬ (64 : Int) < (most : Int) := by omega
  cases q1 : rightM r c ms.length
  · have c2 := fun W => dfits_no r c n ao lo dO ms.length cap ls.length lc ds.length dc W q1
    have eA : unA r c ms n ls ds bs most = ([], 0, 4) := by
      have : unE r c ms n ls ds bs = 4 := by unfold unE fits14; rw [q1]; rfl
      unfold unA; rw [this]; rfl
    rw [eA]
    clear q1
    obtain ⟨m0, m1, m2, _⟩ := id S0.mbox
    obtain ⟨f0, f1, f2, _⟩ := id S0.fbox
    go_enter Tryz.func20, Tryz.ntmps20
    go_wp2_with (go_at_call 38; refine (c2 _).mono ?_; rintro e w2 ⟨rfl, b2⟩; have S2 := S0.later b2)
    exact bodyPost_ret (v := .tuple #[.slice none 0 0, .int .i64 0, .int .i64 4]) (by simp [results, Tryz.results20, go_sem]) rfl (GaveU.none 4 S2.below)
  have c2 := fun W => dfits_any r c n ao lo dO ms.length cap ls.length lc ds.length dc W (fun W => rright12_any n lo dO ls.length lc ds.length dc W) q1
  cases q2 : ff14 r c n ls.length ds.length
  · have eA : unA r c ms n ls ds bs most = ([], 0, 4) := by
      have : unE r c ms n ls ds bs = 4 := by
        unfold unE fits14
        rw [show (rightF n ls.length ds.length && decide (r = n) && decide (c = n)) = false from q2, Bool.and_false]
        rfl
      unfold unA; rw [this]; rfl
    rw [q2] at c2
    rw [eA]
    clear q1
    obtain ⟨m0, m1, m2, _⟩ := id S0.mbox
    obtain ⟨f0, f1, f2, _⟩ := id S0.fbox
    go_enter Tryz.func20, Tryz.ntmps20
    go_wp2_with (go_at_call 38; refine (c2 _).mono ?_; rintro e w2 ⟨rfl, b2⟩; have S2 := S0.later b2)
    exact bodyPost_ret (v := .tuple #[.slice none 0 0, .int .i64 0, .int .i64 4]) (by simp [results, Tryz.results20, go_sem]) rfl (GaveU.none 4 S2.below)
  rw [q2] at c2
  by_cases q3 : (bs.length : Int) = r
  case neg =>
    have eA : unA r c ms n ls ds bs most = ([], 0, 4) := by
      have : unE r c ms n ls ds bs = 4 := by
        unfold unE fits14
        rw [decide_eq_false q3, Bool.and_false]
        rfl
      unfold unA; rw [this]; rfl
    have i3 : ((bs.length : Int) != r) = true := by simp [q3]
    rw [eA]
    clear q1 q2 q3
    go_enter Tryz.func20, Tryz.ntmps20
    go_wp2_with (go_at_call 38; refine (c2 _).mono ?_; rintro e w2 ⟨rfl, b2⟩; have S2 := S0.later b2; obtain ⟨m0, m1, m2, _⟩ := id S2.mbox)
    exact bodyPost_ret (v := .tuple #[.slice none 0 0, .int .i64 0, .int .i64 4]) (by simp [results, Tryz.results20, go_sem]) rfl (GaveU.none 4 S2.below)
  have i3 : ((bs.length : Int) != r) = false := by simp [q3]
  have qf : fits14 r c ms.length n ls.length ds.length bs.length = true := by
    unfold fits14
    rw [q1, show (rightF n ls.length ds.length && decide (r = n) && decide (c = n)) = true from q2, decide_eq_true q3]
    rfl
  have lB' : bs.length ≤ 48 := by
    obtain ⟨R, C, e1, _, hR, _, _⟩ := rightM_nat q1
    omega
  have cm := fun W h => rfinite14 ms ao cap W h fM lM
  have cb := fun W h => rfinite14 bs bo bc W h fB lB
  cases a1 : ms.all finB
  · have eA : unA r c ms n ls ds bs most = ([], 0, 5) := by
      have : unE r c ms n ls ds bs = 5 := by unfold unE; rw [qf, a1]; rfl
      unfold unA; rw [this]; rfl
    rw [a1] at cm
    rw [eA]
    clear q1 q2 q3 qf a1
    go_enter Tryz.func20, Tryz.ntmps20
    go_wp2_with (first
      | (go_at_call 38; refine (c2 _).mono ?_; rintro e w2 ⟨rfl, b2⟩; have S2 := S0.later b2; obtain ⟨m0, m1, m2, _⟩ := id S2.mbox)
      | (go_at_call_of 28 (Value.slice ao ms.length cap); refine (cm _ (hM.below S2.below)).mono ?_; rintro e w3 ⟨rfl, b3⟩; have S3 := S2.later b3))
    exact bodyPost_ret (v := .tuple #[.slice none 0 0, .int .i64 0, .int .i64 5]) (by simp [results, Tryz.results20, go_sem]) rfl (GaveU.none 5 S3.below)
  rw [a1] at cm
  cases a2 : bs.all finB
  · have eA : unA r c ms n ls ds bs most = ([], 0, 5) := by
      have : unE r c ms n ls ds bs = 5 := by unfold unE; rw [qf, a1, a2]; rfl
      unfold unA; rw [this]; rfl
    rw [a2] at cb
    rw [eA]
    clear q1 q2 q3 qf a1 a2
    go_enter Tryz.func20, Tryz.ntmps20
    go_wp2_with (first
      | (go_at_call 38; refine (c2 _).mono ?_; rintro e w2 ⟨rfl, b2⟩; have S2 := S0.later b2; obtain ⟨m0, m1, m2, _⟩ := id S2.mbox)
      | (go_at_call_of 28 (Value.slice ao ms.length cap); refine (cm _ (hM.below S2.below)).mono ?_; rintro e w3 ⟨rfl, b3⟩; have S3 := S2.later b3)
      | (go_at_call_of 28 (Value.slice bo bs.length bc); refine (cb _ (hB.below S3.below)).mono ?_; rintro e w4 ⟨rfl, b4⟩; have S4 := S3.later b4; obtain ⟨f0, f1, f2, _⟩ := id S4.fbox))
    exact bodyPost_ret (v := .tuple #[.slice none 0 0, .int .i64 0, .int .i64 5]) (by simp [results, Tryz.results20, go_sem]) rfl (GaveU.none 5 S4.below)
  rw [a2] at cb
  have eU : unE r c ms n ls ds bs = (fi14 r c ms n ls ds bs).2 := by unfold unE; rw [qf, a1, a2]; rfl
  have HA : Hid (∀ xs lf k, (fi14 r c ms n ls ds bs).2 = 0 → run14 (nx14 r c ms n ls ds bs) most (fi14 r c ms n ls ds bs).1 = ((xs, lf), k) → unA r c ms n ls ds bs most = (xs, k, 0)) := fun xs lf k h1 h2 => by
    unfold unA unR
    rw [eU, if_pos h1, h2]
  have HZ : Hid ((fi14 r c ms n ls ds bs).2 ≠ 0 → unA r c ms n ls ds bs most = ([], 0, (fi14 r c ms n ls ds bs).2)) := fun h => by
    unfold unA
    rw [eU, if_neg h]
  have HX : Hid (∀ xs lf, lfA r c ms xs bs = (lf, 0) → stA r c ms n ls ds xs bs = omA n ls ds xs lf) := fun xs lf h => by
    unfold stA
    rw [q2, if_pos rfl, h, if_pos rfl]
  have HN : Hid (∀ xs lf, nx14 r c ms n ls ds bs (xs, lf) = if (omA n ls ds xs lf).2 = 0 then (if (lfA r c ms (omA n ls ds xs lf).1 bs).2 = 0 then (if ltO (nv (lfA r c ms (omA n ls ds xs lf).1 bs).1) (nv lf) then some ((omA n ls ds xs lf).1, (lfA r c ms (omA n ls ds xs lf).1 bs).1) else none) else none) else none) := fun xs lf => rfl
  have eF : fi14 r c ms n ls ds bs = if (sv14 n ls ds bs).2 = 0 then (if (sv14 n ls ds bs).1.all fiO then (((sv14 n ls ds bs).1.map valO, (lfA r c ms ((sv14 n ls ds bs).1.map valO) bs).1), (lfA r c ms ((sv14 n ls ds bs).1.map valO) bs).2) else (([], []), 6)) else (([], []), (sv14 n ls ds bs).2) := rfl
  have cs : ∀ W, GRow W lo ls → GRow W dO ds → GRow W bo bs → Calls Tryz.prog 39 #[fcV n lo ls.length lc dO ds.length dc, .slice bo bs.length bc] W fun e w' => GaveLe W (sv14 n ls ds bs) e w' := fun W h1 h2 h3 => rsolve_any n ls ds bs lo dO bo lc dc bc (fun i => toO (bs.getD i 0)) W h1 h2 h3 fL fD (fun i hi => toO_NR (fB.at hi))
  have hsl : (sv14 n ls ds bs).1.length ≤ 48 := slA_len _ _ _ _ _
  have cl := fun xs (xo : Option Addr) (xc : Nat) W h1 h2 h3 f l => dleft_any r c ms xs bs ao xo bo cap xc bc W h1 h2 h3 fM f fB lM l lB
  have cp := fun xs (xo : Option Addr) (xc : Nat) W h1 h2 h3 h4 h5 f l => dstep_any r c ms n ls ds xs bs ao lo dO xo bo cap lc dc xc bc W h1 h2 h3 h4 h5 fM fL fD f fB lM l lB
  have hol := fun xs lf => omA_len n ls ds xs lf
  have hll := fun xs => lfA_len r c ms xs bs
  clear q1 q2 q3 qf a1 a2 eU
  generalize unA r c ms n ls ds bs most = UA at *
  generalize nx14 r c ms n ls ds bs = nx at *
  generalize fi14 r c ms n ls ds bs = F at *
  generalize sv14 n ls ds bs = A at *
  obtain ⟨os, er⟩ := A
  simp only at eF hsl
  by_cases he : er = 0
  case neg =>
    rw [if_neg he] at eF
    subst eF
    have HZ := HZ.out he
    subst HZ
    have i4 : (er != 0) = true := by simp [he]
    clear he HA HX HN cl cp hol hll
    go_enter Tryz.func20, Tryz.ntmps20
    go_wp2_with (first
      | (go_at_call 38; refine (c2 _).mono ?_; rintro e w2 ⟨rfl, b2⟩; have S2 := S0.later b2; obtain ⟨m0, m1, m2, _⟩ := id S2.mbox)
      | (go_at_call_of 28 (Value.slice ao ms.length cap); refine (cm _ (hM.below S2.below)).mono ?_; rintro e w3 ⟨rfl, b3⟩; have S3 := S2.later b3)
      | (go_at_call_of 28 (Value.slice bo bs.length bc); refine (cb _ (hB.below S3.below)).mono ?_; rintro e w4 ⟨rfl, b4⟩; have S4 := S3.later b4; obtain ⟨f0, f1, f2, _⟩ := id S4.fbox)
      | (go_at_call 39; refine (cs _ (hL.below S4.below) (hD.below S4.below) (hB.below S4.below)).mono ?_; rintro e w5 ⟨_, rfl, ro, rc, rs, rfl, g1, g2, g3, g4, b5⟩; have S5 := S4.later b5))
    exact bodyPost_ret (v := .tuple #[.slice none 0 0, .int .i64 0, .int .i64 er]) (by simp [results, Tryz.results20, go_sem]) rfl (GaveU.none er S5.below)
  subst he
  rw [if_pos rfl] at eF
  have cz := fun rs (ro : Option Addr) (rc : Nat) W h1 (h2 : LN os rs) => rfinite14 rs ro rc W h1 h2.fw (by rw [h2.1]; omega)
  have HV : Hid (∀ rs, LN os rs → rs.all finB = os.all fiO) := fun rs h => LN_all h
  have HW : Hid (os.all fiO = true → ∀ rs, LN os rs → rs = os.map valO) := fun h rs g => LN_val g h
  cases qa : os.all fiO
  · rw [qa] at eF
    subst eF
    have HZ := HZ.out (show (6 : Int) ≠ 0 by decide)
    subst HZ
    rw [qa] at HV
    clear HA HX HN cl cp hol hll HW qa
    go_enter Tryz.func20, Tryz.ntmps20
    go_wp2_with (first
      | (go_at_call 38; refine (c2 _).mono ?_; rintro e w2 ⟨rfl, b2⟩; have S2 := S0.later b2; obtain ⟨m0, m1, m2, _⟩ := id S2.mbox)
      | (go_at_call_of 28 (Value.slice ao ms.length cap); refine (cm _ (hM.below S2.below)).mono ?_; rintro e w3 ⟨rfl, b3⟩; have S3 := S2.later b3)
      | (go_at_call_of 28 (Value.slice bo bs.length bc); refine (cb _ (hB.below S3.below)).mono ?_; rintro e w4 ⟨rfl, b4⟩; have S4 := S3.later b4; obtain ⟨f0, f1, f2, _⟩ := id S4.fbox)
      | (go_at_call 39; refine (cs _ (hL.below S4.below) (hD.below S4.below) (hB.below S4.below)).mono ?_; rintro e w5 ⟨_, rfl, ro, rc, rs, rfl, g1, g2, g3, g4, b5⟩; have S5 := S4.later b5)
      | (go_at_call_of 28 (Value.slice ro rs.length rc); have cz' := cz rs ro rc _ g2 g1; rw [HV.out rs g1] at cz'; refine cz'.mono ?_; rintro e w6 ⟨rfl, b6⟩; have S6 := S5.later b6))
    exact bodyPost_ret (v := .tuple #[.slice none 0 0, .int .i64 0, .int .i64 6]) (by simp [results, Tryz.results20, go_sem]) rfl (GaveU.none 6 S6.below)
  rw [qa] at eF
  rw [if_pos rfl] at eF
  rw [qa] at HV
  have HW := HW.out qa
  obtain ⟨vs, hvs⟩ : ∃ vs, os.map valO = vs := ⟨_, rfl⟩
  have lv : vs.length ≤ 48 := by rw [← hvs, List.length_map]; exact hsl
  rw [hvs] at eF HW
  have HW' : Hid (∀ rs, LN os rs → vs = rs) := fun rs h => (HW rs h).symm
  clear HW qa hvs
  obtain ⟨⟨l0, e0⟩, hLA⟩ : ∃ LA, lfA r c ms vs bs = LA := ⟨_, rfl⟩
  have hl0 : l0.length ≤ 48 := by have := hll vs; rw [hLA] at this; exact this
  rw [hLA] at eF
  have cl0 := fun (xo : Option Addr) (xc : Nat) W h1 h2 h3 f => cl vs xo xc W h1 h2 h3 f (by omega)
  rw [hLA] at cl0
  simp only at eF
  subst eF
  simp only at HA HZ
  by_cases he : e0 = 0
  case neg =>
    have HZ := HZ.out he
    subst HZ
    have i4 : (e0 != 0) = true := by simp [he]
    clear he HA HX HN cl cp hol hll hLA
    go_enter Tryz.func20, Tryz.ntmps20
    go_wp2_with (first
      | (go_at_call 38; refine (c2 _).mono ?_; rintro e w2 ⟨rfl, b2⟩; have S2 := S0.later b2; obtain ⟨m0, m1, m2, _⟩ := id S2.mbox)
      | (go_at_call_of 28 (Value.slice ao ms.length cap); refine (cm _ (hM.below S2.below)).mono ?_; rintro e w3 ⟨rfl, b3⟩; have S3 := S2.later b3)
      | (go_at_call_of 28 (Value.slice bo bs.length bc); refine (cb _ (hB.below S3.below)).mono ?_; rintro e w4 ⟨rfl, b4⟩; have S4 := S3.later b4; obtain ⟨f0, f1, f2, _⟩ := id S4.fbox)
      | (go_at_call 39; refine (cs _ (hL.below S4.below) (hD.below S4.below) (hB.below S4.below)).mono ?_; rintro e w5 ⟨_, rfl, ro, rc, rs, rfl, g1, g2, g3, g4, b5⟩; have S5 := S4.later b5; have g1' := g1.fw; have cz' := cz rs ro rc _ g2 g1; rw [HV.out rs g1] at cz'; obtain rfl := HW'.out rs g1)
      | (go_at_call_of 28 (Value.slice ro vs.length rc); refine cz'.mono ?_; rintro e w6 ⟨rfl, b6⟩; have S6 := S5.later b6; obtain ⟨m0, m1, m2, _⟩ := id S6.mbox)
      | (go_at_call 11; refine (cl0 _ _ _ (hM.below S6.below) (g2.below b6) (hB.below S6.below) g1').mono ?_; rintro e w7 ⟨yo, yc, rfl, y1, y2, y3, y4, b7⟩; have S7 := S6.later b7))
    exact bodyPost_ret (v := .tuple #[.slice none 0 0, .int .i64 0, .int .i64 e0]) (by simp [results, Tryz.results20, go_sem]) rfl (GaveU.none e0 S7.below)
  subst he
  have HL0 : Hid (lfA r c ms vs bs = (l0, 0)) := hLA
  clear HZ hLA
  go_enter Tryz.func20, Tryz.ntmps20
  go_upto_region 15 with (first
    | (go_at_call 38; refine (c2 _).mono ?_; rintro e w2 ⟨rfl, b2⟩; have S2 := S0.later b2; obtain ⟨m0, m1, m2, _⟩ := id S2.mbox)
    | (go_at_call_of 28 (Value.slice ao ms.length cap); refine (cm _ (hM.below S2.below)).mono ?_; rintro e w3 ⟨rfl, b3⟩; have S3 := S2.later b3)
    | (go_at_call_of 28 (Value.slice bo bs.length bc); refine (cb _ (hB.below S3.below)).mono ?_; rintro e w4 ⟨rfl, b4⟩; have S4 := S3.later b4; obtain ⟨f0, f1, f2, _⟩ := id S4.fbox)
    | (go_at_call 39; refine (cs _ (hL.below S4.below) (hD.below S4.below) (hB.below S4.below)).mono ?_; rintro e w5 ⟨_, rfl, ro, rc, rs, rfl, g1, g2, g3, g4, b5⟩; have S5 := S4.later b5; have g1' := g1.fw; have cz' := cz rs ro rc _ g2 g1; rw [HV.out rs g1] at cz'; obtain rfl := HW'.out rs g1)
    | (go_at_call_of 28 (Value.slice ro vs.length rc); refine cz'.mono ?_; rintro e w6 ⟨rfl, b6⟩; have S6 := S5.later b6; obtain ⟨m0, m1, m2, _⟩ := id S6.mbox)
    | (go_at_call 11; refine (cl0 _ _ _ (hM.below S6.below) (g2.below b6) (hB.below S6.below) g1').mono ?_; rintro e w7 ⟨yo, yc, rfl, y1, y2, y3, y4, b7⟩; have S7 := S6.later b7))
  go_upto_region 16 with (go_at_call 45; refine (rnorm_any l0 _ _ _ y1 y2 (by omega)).mono ?_; rintro e w8 ⟨nr, rfl, n8, b8⟩; have S8 := S7.later b8)
  have U8 : DuS w w8 vs ro rc := ⟨((g2.below b6).below b7).below b8, g1', g3, lv, g4.mono S4.below.size⟩
  clear m0 m1 m2 f0 f1 f2 S0 S2 S3 S4 S5 S6 S7 b2 b3 b4 b5 b6 b7 b8 c2 cm cb cs cz cl0 g2 g3 g4 y1 y2 y3 y4 HV HW'
  go_wp2
  go_loopg [11, 14, 15] most (fun gg s11 s14 s15 wr => ∃ (k : Nat) (xs lf : List Nat) (xo : Option Addr) (xc nr : Nat), k ≤ most ∧ gg = most - k ∧ s11 = .slice xo xs.length xc ∧ s14 = .float .f64 nr ∧ s15 = .int .i64 k ∧ Hid (Go14 nx most (vs, l0) k (xs, lf)) ∧ Hid (lfA r c ms xs bs = (lf, 0)) ∧ Hid (NR (nv lf) nr) ∧ DuS w wr xs xo xc ∧ TwoB w wr r c ao ms.length cap n lo ls.length lc dO ds.length dc)
  case atStart => exact ⟨0, vs, l0, ro, rc, nr, Nat.zero_le _, rfl, rfl, rfl, rfl, (show Go14 nx most (vs, l0) 0 (vs, l0) from rfl), HL0, n8, U8, S8⟩
  case round =>
    clear U8 S8
    obtain ⟨k, xs, lf, yo, yc, nq, hk, hg, rfl, rfl, rfl, hG, hLf, hNr, U, S⟩ := hrel
    have HG : Hid (gk = most - k) := hg
    clear hg
    by_cases hlt : k < most
    · have i5 : (k : Int) < (most : Int) := by omega
      obtain ⟨m0, m1, m2, _⟩ := id S.mbox
      obtain ⟨f0, f1, f2, _⟩ := id S.fbox
      have cx := cp xs yo yc wr (hM.below S.below) (hL.below S.below) (hD.below S.below) U.rx (hB.below S.below) U.fx (by have := U.nx; omega)
      rw [HX.out xs lf hLf.out] at cx
      have hx := HN.out xs lf
      have hl := hol xs lf
      generalize omA n ls ds xs lf = T at *
      obtain ⟨ys, e1⟩ := T
      simp only at hx hl cx
      clear cp HN hol HX
      have hly : ys.length ≤ 48 := Nat.le_trans hl U.nx
      by_cases he : e1 = 0
      case neg =>
        rw [if_neg he] at hx
        have E := HA.out xs lf k (by first | rfl | trivial) (hG.out.none hx)
        subst E
        have i6 : (e1 != 0) = true := by simp [he]
        clear HA hG he hx hl cl hll hLf hNr
        go_wp2_with (go_at_call 17; refine cx.mono ?_; rintro e wa ⟨zo, zc, rfl, k1, k2, k3, k4, ba⟩; have Sa := S.later ba; have Ua := U.later ba)
        exact bodyPost_ret (v := .tuple #[.slice yo xs.length yc, .int .i64 k, .int .i64 0]) (by simp [results, Tryz.results20, go_sem]) rfl ⟨yo, yc, rfl, Ua.rx, Ua.fx, Ua.cx, Ua.hx, Sa.below⟩
      subst he
      rw [if_pos rfl] at hx
      obtain ⟨⟨l1, e2⟩, hL1⟩ : ∃ LA, lfA r c ms ys bs = LA := ⟨_, rfl⟩
      have hl1 : l1.length ≤ 48 := by have := hll ys; rw [hL1] at this; exact this
      have cy := fun (xo : Option Addr) (xc : Nat) W h1 h2 h3 f => cl ys xo xc W h1 h2 h3 f (by omega)
      rw [hL1] at cy hx
      simp only at hx
      have HL1 : Hid (lfA r c ms ys bs = (l1, e2)) := hL1
      clear cl hll hL1 hLf
      have cv := fun (o : Option Addr) (q : Nat) W h1 h2 => rnorm_any l1 o q W h1 h2 (by omega)
      by_cases he : e2 = 0
      case neg =>
        rw [if_neg he] at hx
        have E := HA.out xs lf k (by first | rfl | trivial) (hG.out.none hx)
        subst E
        have i6 : (e2 != 0) = true := by simp [he]
        clear HA hG he hx hl hNr cv HL1
        go_wp2_with (first
          | (go_at_call 17; refine cx.mono ?_; rintro e wa ⟨zo, zc, rfl, k1, k2, k3, k4, ba⟩; have Sa := S.later ba; have Ua := U.later ba; obtain ⟨m0, m1, m2, _⟩ := id Sa.mbox)
          | (go_at_call 11; refine (cy _ _ _ (hM.below Sa.below) k1 (hB.below Sa.below) k2).mono ?_; rintro e wb ⟨vo, vc, rfl, y1, y2, y3, y4, bb⟩; have Sb := Sa.later bb; have Ub := Ua.later bb))
        exact bodyPost_ret (v := .tuple #[.slice yo xs.length yc, .int .i64 k, .int .i64 0]) (by simp [results, Tryz.results20, go_sem]) rfl ⟨yo, yc, rfl, Ub.rx, Ub.fx, Ub.cx, Ub.hx, Sb.below⟩
      subst he
      rw [if_pos rfl] at hx
      cases ql : ltO (nv l1) (nv lf)
      · rw [ql] at hx
        have E := HA.out xs lf k (by first | rfl | trivial) (hG.out.none hx)
        subst E
        have HQ : Hid (∀ a, NR (nv l1) a → (FloatKind.f64.format.order a nq == some .lt) = false) := fun a h1 => by rw [NR_lt h1 hNr.out, ql]
        clear HA hG hx ql hl hNr HL1
        go_wp2_with (first
          | (go_at_call 17; refine cx.mono ?_; rintro e wa ⟨zo, zc, rfl, k1, k2, k3, k4, ba⟩; have Sa := S.later ba; have Ua := U.later ba; obtain ⟨m0, m1, m2, _⟩ := id Sa.mbox)
          | (go_at_call 11; refine (cy _ _ _ (hM.below Sa.below) k1 (hB.below Sa.below) k2).mono ?_; rintro e wb ⟨vo, vc, rfl, y1, y2, y3, y4, bb⟩; have Sb := Sa.later bb; have Ub := Ua.later bb)
          | (go_at_call 45; refine (cv _ _ _ y1 y2).mono ?_; rintro e wc ⟨a6, rfl, n6, bc6⟩; have hq := HQ.out _ n6; have Sc := Sb.later bc6; have Uc := Ub.later bc6))
        exact bodyPost_ret (v := .tuple #[.slice yo xs.length yc, .int .i64 k, .int .i64 0]) (by simp [results, Tryz.results20, go_sem]) rfl ⟨yo, yc, rfl, Uc.rx, Uc.fx, Uc.cx, Uc.hx, Sc.below⟩
      · rw [ql] at hx
        have G1 : Hid (Go14 nx most (vs, l0) (k + 1) (ys, l1)) := hG.out.some hlt hx
        have HQ : Hid (∀ a, NR (nv l1) a → (FloatKind.f64.format.order a nq == some .lt) = true) := fun a h1 => by rw [NR_lt h1 hNr.out, ql]
        clear hG hx ql hl hNr
        go_upto_region 23 with (first
          | (go_at_call 17; refine cx.mono ?_; rintro e wa ⟨zo, zc, rfl, k1, k2, k3, k4, ba⟩; have Sa := S.later ba; have Ua := U.later ba; obtain ⟨m0, m1, m2, _⟩ := id Sa.mbox)
          | (go_at_call 11; refine (cy _ _ _ (hM.below Sa.below) k1 (hB.below Sa.below) k2).mono ?_; rintro e wb ⟨vo, vc, rfl, y1, y2, y3, y4, bb⟩; have Sb := Sa.later bb; have Ub := Ua.later bb)
          | (go_at_call 45; refine (cv _ _ _ y1 y2).mono ?_; rintro e wc ⟨a6, rfl, n6, bc6⟩; have hq := HQ.out _ n6; have Sc := Sb.later bc6))
        go_wp2_with (go_at_call 45; refine (cv _ _ _ (y1.below bc6) y2).mono ?_; rintro e wd ⟨a7, rfl, n7, bd⟩; have Sd := Sc.later bd)
        have Ud : DuS w wd ys zo zc := ⟨((k1.below bb).below bc6).below bd, k2, k3, hly, k4.mono S.below.size⟩
        have N7 : Hid (NR (nv l1) a7) := n7
        clear n6 n7 hq HQ cv cy cx
        go_roundg (most - (k + 1))
        case measure => rw [HG.out]; omega
        case rel => exact ⟨k + 1, ys, l1, zo, zc, a7, by omega, rfl, rfl, rfl, by go_num, G1, HL1, N7, Ud, Sd⟩
    · have ek : k = most := by omega
      subst ek
      have i5 : ¬ (k : Int) < (k : Int) := by omega
      have E := HA.out xs lf k (by first | rfl | trivial) hG.out.last
      subst E
      clear HA hG hLf hNr cp cl HN HX hol hll
      go_wp2
      exact bodyPost_ret (v := .tuple #[.slice yo xs.length yc, .int .i64 k, .int .i64 0]) (by simp [results, Tryz.results20, go_sem]) rfl ⟨yo, yc, rfl, U.rx, U.fx, U.cx, U.hx, S.below⟩
end Go.Proofs.YtmbcmhncicbbjaaGreatDoor

namespace Go.Proofs.YtmbcmhncicbbjaaGreatDoor
open Go.RowKit

/-- What holds of each operation once it is done. -/
def UlF (V : Nat → Value) (p0 : Nat) (r c n : Int) (ms ls ds bs : List Nat) (P G j : Nat) (w : World) (u : Value) : Prop := match j with
  | 2 => ∃ g, u = .agg #[.int .i64 r, .int .i64 c, lnV g ms] ∧ LentF w g ms
  | 5 => ∃ g h, u = .agg #[.int .i64 n, lnV g ls, lnV h ds] ∧ LentF w g ls ∧ LentF w h ds
  | 8 => ∃ g, u = lnV g bs ∧ LentF w g bs
  | 9 => u = .pointer (some ⟨P, 0, none⟩) ∧ p0 < P ∧ ∃ x y z, B3 w P (.int .i64 x) (.int .i64 y) z
  | 10 => u = .pointer (some ⟨G, 0, none⟩) ∧ p0 < G ∧ ∃ x o m k z, B3 w G (.int .i64 x) (.slice o m k) z
  | 11 => ∃ g, B3 w P (.int .i64 r) (.int .i64 c) (lnV g ms) ∧ LentF w g ms
  | 12 => ∃ g h, B3 w G (.int .i64 n) (lnV g ls) (lnV h ds) ∧ LentF w g ls ∧ LentF w h ds
  | 13 => ∃ g, u = lnV g bs ∧ LentF w g bs
  | j => u = V j
structure UlS (V : Nat → Value) (W : World) (r c n : Int) (ms ls ds xs bs : List Nat) (ao lo dO xo bo : Option Addr) (cap lc dc xc bc : Nat) (L : Array Bool) (w : World) (v : Nat → Value) (P G : Nat) : Prop where
  bel : Below W.heap.size W w
  cb : C8 w W.heap.size r c ao ms.length cap n lo ls.length lc dO ds.length dc (.slice xo xs.length xc) (.slice bo bs.length bc)
  c14 : On L 11 → On L 9
  c15 : On L 12 → On L 10
  d : ∀ j, On L j → UlF V W.heap.size r c n ms ls ds bs P G j w (v j)
section
variable {V : Nat → Value} {W : World} {r c n : Int} {ms ls ds xs bs : List Nat} {ao lo dO xo bo : Option Addr} {cap lc dc xc bc : Nat} {L : Array Bool} {w : World} {v : Nat → Value} {P G p0 : Nat}
theorem UlF.below {j : Nat} {u : Value} {w' : World} (h : UlF V p0 r c n ms ls ds bs P G j w u) (hb : Below w.heap.size w w') : UlF V p0 r c n ms ls ds bs P G j w' u := by
  unfold UlF at h ⊢
  split at h
  · obtain ⟨g, e, h⟩ := h; exact ⟨g, e, h.below hb⟩
  · obtain ⟨g, k, e, h, h'⟩ := h; exact ⟨g, k, e, h.below hb, h'.below hb⟩
  · obtain ⟨g, e, h⟩ := h; exact ⟨g, e, h.below hb⟩
  · obtain ⟨e, h1, x, y, z, h⟩ := h; exact ⟨e, h1, x, y, z, h.below hb⟩
  · obtain ⟨e, h1, x, o, m, k, z, h⟩ := h; exact ⟨e, h1, x, o, m, k, z, h.below hb⟩
  · obtain ⟨g, e, h⟩ := h; exact ⟨g, e.below hb, h.below hb⟩
  · obtain ⟨g, k, e, h, h'⟩ := h; exact ⟨g, k, e.below hb, h.below hb, h'.below hb⟩
  · obtain ⟨g, e, h⟩ := h; exact ⟨g, e, h.below hb⟩
  · exact h
theorem UlF.newP {j : Nat} {u : Value} (h : UlF V p0 r c n ms ls ds bs P G j w u) (h12 : j ≠ 9) (h14 : j ≠ 11) (P' : Nat) : UlF V p0 r c n ms ls ds bs P' G j w u := by
  unfold UlF at h ⊢
  split at h <;> first | exact h | exact absurd rfl h12 | exact absurd rfl h14
theorem UlF.newG {j : Nat} {u : Value} (h : UlF V p0 r c n ms ls ds bs P G j w u) (h13 : j ≠ 10) (h15 : j ≠ 12) (G' : Nat) : UlF V p0 r c n ms ls ds bs P G' j w u := by
  unfold UlF at h ⊢
  split at h <;> first | exact h | exact absurd rfl h13 | exact absurd rfl h15
theorem UlF.putP {j : Nat} {u : Value} (h : UlF V p0 r c n ms ls ds bs P G j w u) (h14 : j ≠ 11) {x y : Int} {z : Value} (hP : B3 w P (.int .i64 x) (.int .i64 y) z) (a b : Int) (t : Value) : UlF V p0 r c n ms ls ds bs P G j (slW3 w P (.int .i64 a) (.int .i64 b) t) u := by
  unfold UlF at h ⊢
  split at h
  · obtain ⟨g, e, h⟩ := h; exact ⟨g, e, slW3_lent h (box_lent hP h) _ _ _⟩
  · obtain ⟨g, k, e, h, h'⟩ := h; exact ⟨g, k, e, slW3_lent h (box_lent hP h) _ _ _, slW3_lent h' (box_lent hP h') _ _ _⟩
  · obtain ⟨g, e, h⟩ := h; exact ⟨g, e, slW3_lent h (box_lent hP h) _ _ _⟩
  · obtain ⟨e, h1, _⟩ := h; exact ⟨e, h1, a, b, t, slW3_me hP _ _ _⟩
  · obtain ⟨e, h1, x', o, m, k, z', h⟩ := h; exact ⟨e, h1, x', o, m, k, z', slW3_box h (box_two (k := y) hP h) _ _ _⟩
  · exact absurd rfl h14
  · obtain ⟨g, k, e, h, h'⟩ := h; exact ⟨g, k, slW3_box e (box_two (k := y) hP e) _ _ _, slW3_lent h (box_lent hP h) _ _ _, slW3_lent h' (box_lent hP h') _ _ _⟩
  · obtain ⟨g, e, h⟩ := h; exact ⟨g, e, slW3_lent h (box_lent hP h) _ _ _⟩
  · exact h
theorem UlF.putG {j : Nat} {u : Value} (h : UlF V p0 r c n ms ls ds bs P G j w u) (h15 : j ≠ 12) {x : Int} {o : Option Addr} {m k : Nat} {z : Value} (hG : B3 w G (.int .i64 x) (.slice o m k) z) (a : Int) (o' : Option Addr) (m' k' : Nat) (t : Value) : UlF V p0 r c n ms ls ds bs P G j (slW3 w G (.int .i64 a) (.slice o' m' k') t) u := by
  unfold UlF at h ⊢
  split at h
  · obtain ⟨g, e, h⟩ := h; exact ⟨g, e, slW3_lent h (box_lent hG h) _ _ _⟩
  · obtain ⟨g, k, e, h, h'⟩ := h; exact ⟨g, k, e, slW3_lent h (box_lent hG h) _ _ _, slW3_lent h' (box_lent hG h') _ _ _⟩
  · obtain ⟨g, e, h⟩ := h; exact ⟨g, e, slW3_lent h (box_lent hG h) _ _ _⟩
  · obtain ⟨e, h1, x', y', z', h⟩ := h; exact ⟨e, h1, x', y', z', slW3_box h (box_two (k := y') h hG).symm _ _ _⟩
  · obtain ⟨e, h1, _⟩ := h; exact ⟨e, h1, a, o', m', k', t, slW3_me hG _ _ _⟩
  · obtain ⟨g, e, h⟩ := h; exact ⟨g, slW3_box e (box_two (k := c) e hG).symm _ _ _, slW3_lent h (box_lent hG h) _ _ _⟩
  · exact absurd rfl h15
  · obtain ⟨g, e, h⟩ := h; exact ⟨g, e, slW3_lent h (box_lent hG h) _ _ _⟩
  · exact h
theorem UlS.step (h : UlS V W r c n ms ls ds xs bs ao lo dO xo bo cap lc dc xc bc L w v P G) {i : Nat} {w' : World} {u : Value} (hi : i < L.size) (h14 : i ≠ 11) (h15 : i ≠ 12) (hb : Below w.heap.size w w') (hu : UlF V W.heap.size r c n ms ls ds bs P G i w' u) : UlS V W r c n ms ls ds xs bs ao lo dO xo bo cap lc dc xc bc (L.setIfInBounds i true) w' (upd v i u) P G where
  bel := h.bel.trans (hb.mono h.bel.size)
  cb := h.cb.below hb
  c14 := fun g => (on_set hi 9).2 (Or.inr (h.c14 (((on_set hi 11).1 g).resolve_left (fun e => h14 e.symm))))
  c15 := fun g => (on_set hi 10).2 (Or.inr (h.c15 (((on_set hi 12).1 g).resolve_left (fun e => h15 e.symm))))
  d := fun j g => by
    by_cases e : j = i
    · subst e; rw [upd_at]; exact hu
    · rw [upd_ne v u e]; exact (h.d j (((on_set hi j).1 g).resolve_left e)).below hb
theorem UlS.stepP (h : UlS V W r c n ms ls ds xs bs ao lo dO xo bo cap lc dc xc bc L w v P G) (hi : 9 < L.size) (hn : ¬ On L 9) (t : TypeId) : UlS V W r c n ms ls ds xs bs ao lo dO xo bo cap lc dc xc bc (L.setIfInBounds 9 true) (w.alloc (.cells #[.int .i64 0, .int .i64 0, .slice none 0 0] t)) (upd v 9 (.pointer (some ⟨w.heap.size, 0, none⟩))) w.heap.size G where
  bel := h.bel.alloc h.bel.size _
  cb := h.cb.below ((Below.refl _ _).alloc (Nat.le_refl _) _)
  c14 := fun _ => (on_set hi 9).2 (Or.inl rfl)
  c15 := fun g => (on_set hi 10).2 (Or.inr (h.c15 (((on_set hi 12).1 g).resolve_left (by decide))))
  d := fun j g => by
    by_cases e : j = 9
    · subst e; rw [upd_at]
      exact ⟨rfl, World.block_lt_of_cell? w _ h.cb.c0, 0, 0, _, B3.new w _ _ _ _⟩
    · rw [upd_ne v _ e]
      have g' := ((on_set hi j).1 g).resolve_left e
      exact ((h.d j g').newP e (fun e2 => hn (h.c14 (e2 ▸ g'))) _).below ((Below.refl _ _).alloc (Nat.le_refl _) _)
theorem UlS.stepG (h : UlS V W r c n ms ls ds xs bs ao lo dO xo bo cap lc dc xc bc L w v P G) (hi : 10 < L.size) (hn : ¬ On L 10) (t : TypeId) : UlS V W r c n ms ls ds xs bs ao lo dO xo bo cap lc dc xc bc (L.setIfInBounds 10 true) (w.alloc (.cells #[.int .i64 0, .slice none 0 0, .slice none 0 0] t)) (upd v 10 (.pointer (some ⟨w.heap.size, 0, none⟩))) P w.heap.size where
  bel := h.bel.alloc h.bel.size _
  cb := h.cb.below ((Below.refl _ _).alloc (Nat.le_refl _) _)
  c14 := fun g => (on_set hi 9).2 (Or.inr (h.c14 (((on_set hi 11).1 g).resolve_left (by decide))))
  c15 := fun _ => (on_set hi 10).2 (Or.inl rfl)
  d := fun j g => by
    by_cases e : j = 10
    · subst e; rw [upd_at]
      exact ⟨rfl, World.block_lt_of_cell? w _ h.cb.c0, 0, none, 0, 0, _, B3.new w _ _ _ _⟩
    · rw [upd_ne v _ e]
      have g' := ((on_set hi j).1 g).resolve_left e
      exact ((h.d j g').newG e (fun e2 => hn (h.c15 (e2 ▸ g'))) _).below ((Below.refl _ _).alloc (Nat.le_refl _) _)
theorem UlS.putM (h : UlS V W r c n ms ls ds xs bs ao lo dO xo bo cap lc dc xc bc L w v P G) (hi : 11 < L.size) (o12 : On L 9) {g : Nat} (hl : LentF w g ms) (u : Value) : UlS V W r c n ms ls ds xs bs ao lo dO xo bo cap lc dc xc bc (L.setIfInBounds 11 true) (slW3 w P (.int .i64 r) (.int .i64 c) (lnV g ms)) (upd v 11 u) P G := by
  obtain ⟨_, hp, x, y, z, hB⟩ : v 9 = .pointer (some ⟨P, 0, none⟩) ∧ W.heap.size < P ∧ ∃ x y z, B3 w P (.int .i64 x) (.int .i64 y) z := h.d 9 o12
  refine ⟨h.bel.trans (slW3_below (Nat.le_of_lt hp) _ _ _), h.cb.past (slW3_below (B := W.heap.size + 1) hp _ _ _) (Nat.lt_succ_self _), fun _ => (on_set hi 9).2 (Or.inr o12), fun g => (on_set hi 10).2 (Or.inr (h.c15 (((on_set hi 12).1 g).resolve_left (by decide)))), fun j q => ?_⟩
  by_cases e : j = 11
  · subst e; exact ⟨g, slW3_me hB _ _ _, slW3_lent hl (box_lent hB hl) _ _ _⟩
  · rw [upd_ne v _ e]
    exact (h.d j (((on_set hi j).1 q).resolve_left e)).putP e hB _ _ _
theorem UlS.putF (h : UlS V W r c n ms ls ds xs bs ao lo dO xo bo cap lc dc xc bc L w v P G) (hi : 12 < L.size) (o13 : On L 10) {g k : Nat} (hl : LentF w g ls) (hk : LentF w k ds) (u : Value) : UlS V W r c n ms ls ds xs bs ao lo dO xo bo cap lc dc xc bc (L.setIfInBounds 12 true) (slW3 w G (.int .i64 n) (lnV g ls) (lnV k ds)) (upd v 12 u) P G := by
  obtain ⟨_, hp, x, o, m, q, z, hB⟩ : v 10 = .pointer (some ⟨G, 0, none⟩) ∧ W.heap.size < G ∧ ∃ x o m k z, B3 w G (.int .i64 x) (.slice o m k) z := h.d 10 o13
  refine ⟨h.bel.trans (slW3_below (Nat.le_of_lt hp) _ _ _), h.cb.past (slW3_below (B := W.heap.size + 1) hp _ _ _) (Nat.lt_succ_self _), fun g => (on_set hi 9).2 (Or.inr (h.c14 (((on_set hi 11).1 g).resolve_left (by decide)))), fun _ => (on_set hi 10).2 (Or.inr o13), fun j q => ?_⟩
  by_cases e : j = 12
  · subst e; exact ⟨g, k, slW3_me hB _ _ _, slW3_lent hl (box_lent hB hl) _ _ _, slW3_lent hk (box_lent hB hk) _ _ _⟩
  · rw [upd_ne v _ e]
    exact (h.d j (((on_set hi j).1 q).resolve_left e)).putG e hB _ _ _ _ _
end
end Go.Proofs.YtmbcmhncicbbjaaGreatDoor

namespace Go.Proofs.YtmbcmhncicbbjaaGreatDoor
open Go.RowKit

theorem unA_len (r c : Int) (ms : List Nat) (n : Int) (ls ds bs : List Nat) (k : Nat) : (unA r c ms n ls ds bs k).1.length ≤ 48 := by
  unfold unA
  split
  · unfold unR
    refine run14_inv (nx14 r c ms n ls ds bs) (fun s => s.1.length ≤ 48) (fun s t h hs => ?_) k _ (fi14_len r c ms n ls ds bs).1
    rw [nx14_nt] at h
    have hl := nt14_len r c ms n ls ds bs s.1 s.2 hs
    split at h
    · split at h
      · cases h; exact hl.1
      · cases h
    · cases h
  · simp
theorem uzA_len (r c : Int) (ms : List Nat) (n : Int) (ls ds bs : List Nat) (m : Int) : (uzA r c ms n ls ds bs m).1.length ≤ 48 := by
  unfold uzA
  split
  · exact unA_len _ _ _ _ _ _ _ _
  · simp
theorem until_all (r c : Int) (ms : List Nat) (n : Int) (ls ds bs : List Nat) (m : Int) (ao lo dO bo : Option Addr) (cap lc dc bc : Nat) (w : World) (hT : TabW w) (hM : GRow w ao ms) (hL : GRow w lo ls) (hD : GRow w dO ds) (hB : GRow w bo bs) (fM : FW ms) (fL : FW ls) (fD : FW ds) (fB : FW bs) (lM : ms.length ≤ 1125899906842624) (lB : bs.length ≤ 1125899906842624) (hz : Shp ao cap) (hcap : ms.length ≤ cap) :
    Calls Tryz.prog 19 #[mxV r c ao ms.length cap, fcV n lo ls.length lc dO ds.length dc, .slice bo bs.length bc, .int .i64 m] w fun e w' => GaveU w (uzA r c ms n ls ds bs m) e w' := by
  unfold uzA
  by_cases h : 0 ≤ m ∧ m ≤ 64
  · rw [if_pos h]
    obtain ⟨k, rfl⟩ := Int.eq_ofNat_of_zero_le h.1
    rw [Int.toNat_natCast]
    exact until_any r c ms n ls ds bs k ao lo dO bo cap lc dc bc w (by omega) hT hM hL hD hB fM fL fD fB lM lB hz hcap
  · rw [if_neg h]
    exact until_out r c n m ao lo dO bo ms.length cap ls.length lc ds.length dc bs.length bc w h
theorem duntil_all (r c : Int) (ms : List Nat) (n : Int) (ls ds bs : List Nat) (m : Int) (ao lo dO bo : Option Addr) (cap lc dc bc : Nat) (w : World) (hM : GRow w ao ms) (hL : GRow w lo ls) (hD : GRow w dO ds) (hB : GRow w bo bs) (fM : FW ms) (fL : FW ls) (fD : FW ds) (fB : FW bs) (lM : ms.length ≤ 1125899906842624) (lB : bs.length ≤ 1125899906842624) :
    Calls Tryz.prog 20 #[mxV r c ao ms.length cap, fcV n lo ls.length lc dO ds.length dc, .slice bo bs.length bc, .int .i64 m] w fun e w' => GaveU w (uzA r c ms n ls ds bs m) e w' := by
  unfold uzA
  by_cases h : 0 ≤ m ∧ m ≤ 64
  · rw [if_pos h]
    obtain ⟨k, rfl⟩ := Int.eq_ofNat_of_zero_le h.1
    rw [Int.toNat_natCast]
    exact duntil_any r c ms n ls ds bs k ao lo dO bo cap lc dc bc w (by omega) hM hL hD hB fM fL fD fB lM lB
  · rw [if_neg h]
    exact duntil_out r c n m ao lo dO bo ms.length cap ls.length lc ds.length dc bs.length bc w h
set_option maxRecDepth 100000 in
set_option maxHeartbeats 4000000 in
theorem untils_law (r c n m : Int) (ms ls ds xs bs : List Nat) (ao lo dO xo bo : Option Addr) (cap lc dc xc bc : Nat) (w : World) (hT : TabW w) (hM : GRow w ao ms) (hL0 : GRow w lo ls) (hD : GRow w dO ds) (hB : GRow w bo bs) (fM : FW ms) (fL : FW ls) (fD : FW ds) (fB : FW bs) (sM : ao = none → cap = 0 ∧ ms.length = 0) (sL : lo = none → lc = 0 ∧ ls.length = 0) (sD : dO = none → dc = 0 ∧ ds.length = 0) (sB : bo = none → bc = 0 ∧ bs.length = 0) (lL : ls.length ≤ 17592186044416) (lD : ds.length ≤ 17592186044416) :
    Calls Tryz.prog 5 #[csV r c ao ms.length cap n lo ls.length lc dO ds.length dc xo xs.length xc bo bs.length bc, .int .i64 m] w fun e w' => e = .returned (.bool true) ∧ Below w.heap.size w w' := by
  have hg := fun W => great14 r c ao ms.length cap W
  have M0 := C8.new w r c ao ms.length cap n lo ls.length lc dO ds.length dc xo xs.length xc bo bs.length bc 38
  have B0 : Below w.heap.size w (w.alloc (.cells #[.int .i64 r, .int .i64 c, .slice ao ms.length cap, .int .i64 n, .slice lo ls.length lc, .slice dO ds.length dc, .slice xo xs.length xc, .slice bo bs.length bc] 38)) := below_one w _
  by_cases g1 : 100 < ms.length
  · rw [decide_eq_true g1] at hg
    clear g1
    go_enter Tryz.func5, Tryz.ntmps5
    go_wp2_with (first
      | (go_at_call 6; refine (awake14 _ (tabW_below hT B0)).mono ?_; rintro e w1 ⟨rfl, b1⟩; obtain ⟨m0, m1, m2, m3, m4, m5, m6, m7⟩ := M0.below b1; have z1 := B0.trans (b1.mono B0.size))
      | (go_at_call 7; refine (hg _).mono ?_; rintro e w2 ⟨rfl, b2⟩; have z2 := z1.trans (b2.mono z1.size)))
    go_ret
    exact ⟨rfl, z2⟩
  · rw [decide_eq_false g1] at hg
    by_cases g3 : 100 < bs.length
    · have i3 : (100 : Int) < (bs.length : Int) := by omega
      clear g1 g3
      go_enter Tryz.func5, Tryz.ntmps5
      go_wp2_with (first
        | (go_at_call 6; refine (awake14 _ (tabW_below hT B0)).mono ?_; rintro e w1 ⟨rfl, b1⟩; have M1 := M0.below b1; obtain ⟨m0, m1, m2, m3, m4, m5, m6, m7⟩ := id M1; have z1 := B0.trans (b1.mono B0.size))
        | (go_at_call 7; refine (hg _).mono ?_; rintro e w2 ⟨rfl, b2⟩; obtain ⟨m0, m1, m2, m3, m4, m5, m6, m7⟩ := M1.below b2; have z2 := z1.trans (b2.mono z1.size)))
      go_ret
      exact ⟨rfl, z2⟩
    · have i3 : ¬ (100 : Int) < (bs.length : Int) := by omega
      have cM := fun W h => lentM_any r c ms ao cap W h sM (by omega)
      have cF := fun W h1 h2 => lentFc_any n ls ds lo dO lc dc W h1 h2 sL sD lL lD
      have cB := fun W h => lentR_any bs bo bc W h sB (by omega)
      have kM := fun g W h1 h2 => keptM_any r c ms ao cap g W h1 fM h2 (by omega)
      have kF := fun g h W h1 h2 h3 h4 => keptFc_any n ls ds lo dO lc dc g h W h1 h2 fL fD h3 h4 lL lD
      have kB := fun g W h1 h2 => keptR_any bs bo bc g W h1 fB h2 (by omega)
      have pS := fun o1 o2 o3 o5 W t h1 h2 h3 h5 => until_all r c ms n ls ds bs m (some ⟨o1, 0, none⟩) (some ⟨o2, 0, none⟩) (some ⟨o3, 0, none⟩) (some ⟨o5, 0, none⟩) (ms.length + 12) (ls.length + 12) (ds.length + 12) (bs.length + 12) W t h1 h2 h3 h5 fM fL fD fB (by omega) (by omega) (Or.inr (Or.inl ⟨o1, 0, rfl⟩)) (by omega)
      have dS := fun W h1 h2 h3 h5 => duntil_all r c ms n ls ds bs m ao lo dO bo cap lc dc bc W h1 h2 h3 h5 fM fL fD fB (by omega) (by omega)
      have lS : (uzA r c ms n ls ds bs m).1.length ≤ 1125899906842624 := Nat.le_trans (uzA_len r c ms n ls ds bs m) (by omega)
      obtain ⟨q, hq⟩ : ∃ q, uzA r c ms n ls ds bs m = q := ⟨_, rfl⟩
      rw [hq] at pS dS lS
      obtain ⟨zs, kk, er⟩ := q
      simp only at lS
      have sR := fun o1 o2 c1 c2 W h1 h2 f => sreals_any zs zs o1 o2 c1 c2 W h1 h2 f f lS lS
      rw [sameL_my] at sR
      have eer : (er == er) = true := by simp
      have eek : ((kk : Int) == (kk : Int)) = true := by simp
      clear g1 g3 hq lS fM fB fL fD sM sB sL sD lL lD
      go_enter Tryz.func5, Tryz.ntmps5
      go_upto_region 5 with (first
        | (go_at_call 6; refine (awake14 _ (tabW_below hT B0)).mono ?_; rintro e w1 ⟨rfl, b1⟩; have M1 := M0.below b1; obtain ⟨m0, m1, m2, m3, m4, m5, m6, m7⟩ := id M1; have z1 := B0.trans (b1.mono B0.size))
        | (go_at_call 7; refine (hg _).mono ?_; rintro e w2 ⟨rfl, b2⟩; have M2 := M1.below b2; obtain ⟨m0, m1, m2, m3, m4, m5, m6, m7⟩ := id M2; have z2 := z1.trans (b2.mono z1.size)))
      clear b1 b2 M1 M0 B0 z1 m0 m1 m2 m3 m4 m5 m6 m7 hg i3
      go_cut [5, 6, 7] from 15 to 34 (fun s5 s6 s7 wx => ∃ P G g1 g2 g3 g5, s5 = .pointer (some ⟨P, 0, none⟩) ∧ s6 = .pointer (some ⟨G, 0, none⟩) ∧ s7 = .slice (some ⟨g5, 0, none⟩) bs.length (bs.length + 12) ∧ C8 wx w.heap.size r c ao ms.length cap n lo ls.length lc dO ds.length dc (.slice xo xs.length xc) (.slice bo bs.length bc) ∧ B3 wx P (.int .i64 r) (.int .i64 c) (.slice (some ⟨g1, 0, none⟩) ms.length (ms.length + 12)) ∧ B3 wx G (.int .i64 n) (.slice (some ⟨g2, 0, none⟩) ls.length (ls.length + 12)) (.slice (some ⟨g3, 0, none⟩) ds.length (ds.length + 12)) ∧ LentF wx g1 ms ∧ LentF wx g2 ls ∧ LentF wx g3 ds ∧ LentF wx g5 bs ∧ Below w.heap.size w wx)
      case first =>
        refine region_inv (by kernel_rfl) (fun L a w' => ∃ v P G, a = ⟨#[csV r c ao ms.length cap n lo ls.length lc dO ds.length dc xo xs.length xc bo bs.length bc, .int .i64 m, .pointer (some ⟨w.heap.size, 0, none⟩), undef, .bool false, v 9, v 10, v 13, undef, undef, undef, undef, undef, undef, undef, .bool true, .bool false, .pointer (some ⟨w.heap.size, 0, none⟩), .agg #[.int .i64 r, .int .i64 c, .slice ao ms.length cap], .bool false, .bool false, .pointer (some ⟨w.heap.size, 7, none⟩), .slice bo bs.length bc, .int .i64 bs.length, .bool (decide ((100 : Int) < (bs.length : Int))), .bool (decide ((100 : Int) < (bs.length : Int))), v 0, v 1, v 2, v 3, v 4, v 5, v 6, v 7, v 8, undef, undef, undef, undef, undef, undef, undef, undef, undef, undef, undef, undef, undef, undef, undef, undef, undef, undef, undef, undef, undef, undef, undef, undef, undef, undef, undef, undef, undef, undef, undef, undef, undef, undef, undef, undef, undef, undef, undef, undef, undef, undef, undef, undef, undef, undef, undef, undef, undef, undef, undef, undef, undef], []⟩ ∧ UlS (fun j => match j with | 0 => .pointer (some ⟨w.heap.size, 0, none⟩) | 1 => .agg #[.int .i64 r, .int .i64 c, .slice ao ms.length cap] | 3 => .pointer (some ⟨w.heap.size, 3, none⟩) | 4 => .agg #[.int .i64 n, .slice lo ls.length lc, .slice dO ds.length dc] | 6 => .pointer (some ⟨w.heap.size, 7, none⟩) | 7 => .slice bo bs.length bc | _ => undef) w r c n ms ls ds xs bs ao lo dO xo bo cap lc dc xc bc L w' v P G) ?_ ?_ ?_
        · exact ⟨fun _ => undef, 0, 0, rfl, ⟨z2.drew, M2.below (Below.refl _ _).drew, fun h => absurd h on_no, fun h => absurd h on_no, fun j h => absurd h on_no⟩⟩
        · rintro L a w' i' hL ⟨v, P, G, rfl, hS⟩ hi
          obtain ⟨h1, h2, h3⟩ := mem_ready hi
          have h1 : i' < 14 := h1
          have hLs : L.size = 14 := hL
          have hno := off_on (by rw [hLs]; exact h1) h2
          have hcs : i' = 0 ∨ i' = 1 ∨ i' = 2 ∨ i' = 3 ∨ i' = 4 ∨ i' = 5 ∨ i' = 6 ∨ i' = 7 ∨ i' = 8 ∨ i' = 9 ∨ i' = 10 ∨ i' = 11 ∨ i' = 12 ∨ i' = 13 := by omega
          have bl := hS.bel
          obtain ⟨m0, m1, m2, m3, m4, m5, m6, m7⟩ := id hS.cb
          have ste := fun (w2 : World) (u : Value) (h14 : i' ≠ 11) (h15 : i' ≠ 12) hb hu => UlS.step (w' := w2) (u := u) hS (by rw [hLs]; exact h1) h14 h15 hb hu
          rcases hcs with rfl | rfl | rfl | rfl | rfl | rfl | rfl | rfl | rfl | rfl | rfl | rfl | rfl | rfl
          · refine wpOp_any (fun K hK => ?_)
            unfold wpOp
            go_simp
            refine Or.inl ?_
            exact hK _ _ ⟨_, P, G, rfl, ste _ _ (by decide) (by decide) (Below.refl _ _) rfl⟩
          · have dn0 := ready_dep hi 0 (by kernel_rfl)
            have e0 : v 0 = .pointer (some ⟨w.heap.size, 0, none⟩) := hS.d 0 dn0
            refine wpOp_any (fun K hK => ?_)
            unfold wpOp
            go_simp
            refine Or.inl ?_
            exact hK _ _ ⟨_, P, G, (by simp [upd, e0]), ste _ _ (by decide) (by decide) (Below.refl _ _) rfl⟩
          · have dn1 := ready_dep hi 1 (by kernel_rfl)
            have e1 : v 1 = .agg #[.int .i64 r, .int .i64 c, .slice ao ms.length cap] := hS.d 1 dn1
            refine wpOp_any (fun K hK => ?_)
            unfold wpOp
            go_simp
            refine Or.inl ?_
            refine (cM _ (hM.below bl)).mono (fun e w1 => ?_)
            rintro ⟨g, rfl, lg, _, bq⟩
            exact hK _ _ ⟨_, P, G, (by simp [upd, e1]), ste _ _ (by decide) (by decide) bq ⟨g, rfl, lg⟩⟩
          · refine wpOp_any (fun K hK => ?_)
            unfold wpOp
            go_simp
            refine Or.inl ?_
            exact hK _ _ ⟨_, P, G, rfl, ste _ _ (by decide) (by decide) (Below.refl _ _) rfl⟩
          · have dn3 := ready_dep hi 3 (by kernel_rfl)
            have e3 : v 3 = .pointer (some ⟨w.heap.size, 3, none⟩) := hS.d 3 dn3
            refine wpOp_any (fun K hK => ?_)
            unfold wpOp
            go_simp
            refine Or.inl ?_
            exact hK _ _ ⟨_, P, G, (by simp [upd, e3]), ste _ _ (by decide) (by decide) (Below.refl _ _) rfl⟩
          · have dn4 := ready_dep hi 4 (by kernel_rfl)
            have e4 : v 4 = .agg #[.int .i64 n, .slice lo ls.length lc, .slice dO ds.length dc] := hS.d 4 dn4
            refine wpOp_any (fun K hK => ?_)
            unfold wpOp
            go_simp
            refine Or.inl ?_
            refine (cF _ (hL0.below bl) (hD.below bl)).mono (fun e w1 => ?_)
            rintro ⟨g, h, rfl, lg, lh, _, _, bq⟩
            exact hK _ _ ⟨_, P, G, (by simp [upd, e4]), ste _ _ (by decide) (by decide) bq ⟨g, h, rfl, lg, lh⟩⟩
          · refine wpOp_any (fun K hK => ?_)
            unfold wpOp
            go_simp
            refine Or.inl ?_
            exact hK _ _ ⟨_, P, G, rfl, ste _ _ (by decide) (by decide) (Below.refl _ _) rfl⟩
          · have dn6 := ready_dep hi 6 (by kernel_rfl)
            have e6 : v 6 = .pointer (some ⟨w.heap.size, 7, none⟩) := hS.d 6 dn6
            refine wpOp_any (fun K hK => ?_)
            unfold wpOp
            go_simp
            refine Or.inl ?_
            exact hK _ _ ⟨_, P, G, (by simp [upd, e6]), ste _ _ (by decide) (by decide) (Below.refl _ _) rfl⟩
          · have dn7 := ready_dep hi 7 (by kernel_rfl)
            have e7 : v 7 = .slice bo bs.length bc := hS.d 7 dn7
            refine wpOp_any (fun K hK => ?_)
            unfold wpOp
            go_simp
            refine Or.inl ?_
            refine (cB _ (hB.below bl)).mono (fun e w1 => ?_)
            rintro ⟨rfl, lg, bq⟩
            exact hK _ _ ⟨_, P, G, (by simp [upd, e7]), ste _ _ (by decide) (by decide) bq ⟨_, rfl, lg⟩⟩
          · refine wpOp_any (fun K hK => ?_)
            unfold wpOp
            go_simp
            refine Or.inl ?_
            exact hK _ _ ⟨_, w'.heap.size, G, rfl, hS.stepP (by rw [hLs]; decide) hno _⟩
          · refine wpOp_any (fun K hK => ?_)
            unfold wpOp
            go_simp
            refine Or.inl ?_
            exact hK _ _ ⟨_, P, w'.heap.size, rfl, hS.stepG (by rw [hLs]; decide) hno _⟩
          · have dn12 := ready_dep hi 9 (by kernel_rfl)
            have dn2 := ready_dep hi 2 (by kernel_rfl)
            obtain ⟨g, e2, lg⟩ : ∃ g, v 2 = .agg #[.int .i64 r, .int .i64 c, lnV g ms] ∧ LentF w' g ms := hS.d 2 dn2
            obtain ⟨e12, hp, x, y, z, q0, q1, q2, y0, y1, y2, _⟩ : v 9 = .pointer (some ⟨P, 0, none⟩) ∧ w.heap.size < P ∧ ∃ x y z, B3 w' P (.int .i64 x) (.int .i64 y) z := hS.d 9 dn12
            refine wpOp_any (fun K hK => ?_)
            unfold wpOp
            go_simp
            refine Or.inl ?_
            exact hK _ _ ⟨_, P, G, (by simp [upd, e12, e2]), hS.putM (by rw [hLs]; decide) dn12 lg undef⟩
          · have dn13 := ready_dep hi 10 (by kernel_rfl)
            have dn5 := ready_dep hi 5 (by kernel_rfl)
            obtain ⟨g, h, e5, lg, lh⟩ : ∃ g h, v 5 = .agg #[.int .i64 n, lnV g ls, lnV h ds] ∧ LentF w' g ls ∧ LentF w' h ds := hS.d 5 dn5
            obtain ⟨e13, hp, x, o, m', k, z, q0, q1, q2, y0, y1, y2, _⟩ : v 10 = .pointer (some ⟨G, 0, none⟩) ∧ w.heap.size < G ∧ ∃ x o m k z, B3 w' G (.int .i64 x) (.slice o m k) z := hS.d 10 dn13
            refine wpOp_any (fun K hK => ?_)
            unfold wpOp
            go_simp
            refine Or.inl ?_
            exact hK _ _ ⟨_, P, G, (by simp [upd, e13, e5]), hS.putF (by rw [hLs]; decide) dn13 lg lh undef⟩
          · have dn8 := ready_dep hi 8 (by kernel_rfl)
            obtain ⟨g, e8, lg⟩ : ∃ g, v 8 = lnV g bs ∧ LentF w' g bs := hS.d 8 dn8
            refine wpOp_any (fun K hK => ?_)
            unfold wpOp
            go_simp
            refine Or.inl ?_
            exact hK _ _ ⟨_, P, G, (by simp [upd, e8]), ste _ _ (by decide) (by decide) (Below.refl _ _) ⟨g, rfl, lg⟩⟩
        · rintro L a w' hL ⟨v, P, G, rfl, hS⟩ hr
          have on := all_done hL hr (by kernel_rfl)
          obtain ⟨e12, _⟩ : v 9 = .pointer (some ⟨P, 0, none⟩) ∧ w.heap.size < P ∧ ∃ x y z, B3 w' P (.int .i64 x) (.int .i64 y) z := hS.d 9 (on 9 (by decide))
          obtain ⟨e13, _⟩ : v 10 = .pointer (some ⟨G, 0, none⟩) ∧ w.heap.size < G ∧ ∃ x o m k z, B3 w' G (.int .i64 x) (.slice o m k) z := hS.d 10 (on 10 (by decide))
          obtain ⟨g1, k1, l1⟩ : ∃ g, B3 w' P (.int .i64 r) (.int .i64 c) (lnV g ms) ∧ LentF w' g ms := hS.d 11 (on 11 (by decide))
          obtain ⟨g2, g3, k2, l2, l3⟩ : ∃ g h, B3 w' G (.int .i64 n) (lnV g ls) (lnV h ds) ∧ LentF w' g ls ∧ LentF w' h ds := hS.d 12 (on 12 (by decide))
          obtain ⟨g5, e17, l5⟩ : ∃ g, v 13 = lnV g bs ∧ LentF w' g bs := hS.d 13 (on 13 (by decide))
          have bl := hS.bel
          have cb := hS.cb
          rw [e12, e13, e17]
          clear hS on hr
          generalize v 0 = x0
          generalize v 1 = x1
          generalize v 2 = x2
          generalize v 3 = x3
          generalize v 4 = x4
          generalize v 5 = x5
          generalize v 6 = x6
          generalize v 7 = x7
          generalize v 8 = x8
          dsimp only
          go_wp2
          go_meet
          case rel => exact ⟨P, G, g1, g2, g3, g5, rfl, rfl, rfl, cb, k1, k2, l1, l2, l3, l5, bl⟩
      case rest =>
        obtain ⟨P, G, g1, g2, g3, g5, rfl, rfl, rfl, cb, k1, k2, l1, l2, l3, l5, bl⟩ := hcut
        have hT1 := tabW_below hT bl
        obtain ⟨m0, m1, m2, m3, m4, m5, m6, m7⟩ := id cb
        obtain ⟨p0, p1, p2, _⟩ := id k1
        obtain ⟨q0, q1, q2, _⟩ := id k2
        have pS' := pS g1 g2 g3 g5 _ hT1 l1.row l2.row l3.row l5.row
        clear pS cM cF cB
        go_upto_region 7 with (go_at_call 19; refine pS'.mono ?_; rintro e w7 ⟨o1, c1, rfl, r1, f1, _, _, b7⟩)
        have z7 := bl.trans (b7.mono bl.size)
        have C7 := cb.below b7
        have K1 := k1.below b7
        have K2 := k2.below b7
        have A1 := l1.below b7
        have A2 := l2.below b7
        have A3 := l3.below b7
        have A5 := l5.below b7
        clear cb k1 k2 l1 l2 l3 l5 b7 bl pS' hT1 m0 m1 m2 m3 m4 m5 m6 m7 p0 p1 p2 q0 q1 q2
        obtain ⟨m0, m1, m2, m3, m4, m5, m6, m7⟩ := id C7
        have dS' := dS w7 (hM.below z7) (hL0.below z7) (hD.below z7) (hB.below z7)
        clear dS
        go_upto_region 8 with (go_at_call 20; refine dS'.mono ?_; rintro e w8 ⟨o2, c2, rfl, r2, f2, _, _, b8⟩)
        have z8 := z7.trans (b8.mono z7.size)
        have C8' := C7.below b8
        have N1 := K1.below b8
        have N2 := K2.below b8
        have E1 := A1.below b8
        have E2 := A2.below b8
        have E3 := A3.below b8
        have E5 := A5.below b8
        have R1 := r1.below b8
        clear C7 K1 K2 A1 A2 A3 A5 b8 z7 dS' r1 m0 m1 m2 m3 m4 m5 m6 m7
        obtain ⟨m0, m1, m2, m3, m4, m5, m6, m7⟩ := id C8'
        obtain ⟨p0, p1, p2, _⟩ := id N1
        obtain ⟨q0, q1, q2, _⟩ := id N2
        go_wp2_with (first
          | (go_at_call 13; refine (kM _ _ (hM.below z8) E1).mono ?_; rintro e w9 ⟨rfl, b9⟩; have z9 := z8.trans (b9.mono z8.size); obtain ⟨m0, m1, m2, m3, m4, m5, m6, m7⟩ := C8'.below b9; obtain ⟨q0, q1, q2, _⟩ := N2.below b9; have E2' := E2.below b9; have E3' := E3.below b9; have E5' := E5.below b9; have R2 := R1.below b9; have R3 := r2.below b9; have C9 := C8'.below b9)
          | (go_at_call 18; refine (kF _ _ _ (hL0.below z9) (hD.below z9) E2' E3').mono ?_; rintro e wa ⟨rfl, ba⟩; have za := z9.trans (ba.mono z9.size); have Ca := C9.below ba; obtain ⟨m0, m1, m2, m3, m4, m5, m6, m7⟩ := id Ca; have E5a := E5'.below ba; have R4 := R2.below ba; have R5 := R3.below ba)
          | (go_at_call 14; refine (kB _ _ (hB.below za) E5a).mono ?_; rintro e wc ⟨rfl, bc'⟩; have zc := za.trans (bc'.mono za.size); have R8 := R4.below bc'; have R9 := R5.below bc')
          | (go_at_call 12; refine (sR _ _ _ _ _ R8 R9 f1).mono ?_; rintro e wd ⟨rfl, bd⟩; have zd := zc.trans (bd.mono zc.size)))
        go_ret
        exact ⟨rfl, zd⟩
end Go.Proofs.YtmbcmhncicbbjaaGreatDoor
