/- What the document's Solve answers. -/
import Derived.Test.YtmbcmhncicbbjaaGreatDoorS2
namespace Go.Proofs.YtmbcmhncicbbjaaGreatDoor
open Go.RowKit

set_option maxRecDepth 100000 in
set_option maxHeartbeats 4000000 in
theorem rforward_any (n : Int) (ls bs : List Nat) (lo dO bo : Option Addr) (lc dn dc bc : Nat) (ob : Nat → Option Nat) (w : World) (hL : GRow w lo ls) (hB : GRow w bo bs) (fL : FW ls) (hb : ∀ i, i < bs.length → NR (ob i) (bs.getD i 0)) :
    Calls Tryz.prog 71 #[fcV n lo ls.length lc dO dn dc, .slice bo bs.length bc] w fun e w' => GaveLe w (fwA n ls dn bs.length ob) e w' := by
  have cr := fun W => rright13_any n lo dO ls.length lc dn dc W
  have M0 := B3.new w (.int .i64 n) (.slice lo ls.length lc) (.slice dO dn dc) 36
  cases q : fitF n ls.length dn bs.length
  · have eA : fwA n ls dn bs.length ob = ([], 4) := by unfold fwA; rw [q]; rfl
    rw [eA]
    unfold fitF at q
    cases q1 : rightF n ls.length dn
    · rw [q1] at cr
      go_enter Tryz.func71, Tryz.ntmps71
      go_wp2_with (go_at_call 100; refine (cr _).mono ?_; rintro e w1 ⟨rfl, b1⟩; have B1 := old_one b1)
      exact bodyPost_ret (v := .tuple #[.slice none 0 0, .int .i64 4]) (by simp [results, Tryz.results71, go_sem]) rfl ⟨_, rfl, GaveF.nil B1⟩
    · rw [q1] at cr
      rw [q1, Bool.true_and, decide_eq_false_iff_not] at q
      have e1 : ((bs.length : Int) != n) = true := by simp [q]
      clear q
      go_enter Tryz.func71, Tryz.ntmps71
      go_wp2_with (go_at_call 100; refine (cr _).mono ?_; rintro e w1 ⟨rfl, b1⟩; have B1 := old_one b1; obtain ⟨m0, m1, m2, _⟩ := M0.below b1)
      exact bodyPost_ret (v := .tuple #[.slice none 0 0, .int .i64 4]) (by simp [results, Tryz.results71, go_sem]) rfl ⟨_, rfl, GaveF.nil B1⟩
  · have q1 : rightF n ls.length dn = true := by unfold fitF at q; rw [Bool.and_eq_true] at q; exact q.1
    rw [q1] at cr
    clear q1
    obtain ⟨N, rfl, hN, hl, hd, hbn⟩ := fit_nat q
    have HL : Hid (ls.length = tri N) := hl
    have HBN : Hid (bs.length = N) := hbn
    have e1 : ((bs.length : Int) != (N : Int)) = false := by simp; omega
    have eA : fwA N ls dn bs.length ob = (tab N (fwO (lsF ls) ob), 0) := by unfold fwA; rw [q, Int.toNat_natCast]; rfl
    rw [eA]
    clear hl hbn hd q eA
    have hmk := run_make_row' (P := Tryz.prog) 22 48 (.float .f64 0) 8 Tryz.underlying22 Tryz.infoF rfl .i64 .i64 N (by omega) (by omega)
    go_enter Tryz.func71, Tryz.ntmps71
    go_wp2_with (go_at_call 100; refine (cr _).mono ?_; rintro e w1 ⟨rfl, b1⟩; have M1 := M0.below b1; obtain ⟨f0, f1, f2, _⟩ := id M1; have B1 := old_one b1)
    have hst := vstoref Tryz.prog
    have q1 := fun x y w => run_op4 (P := Tryz.prog) (op := .sub) opSu 48 x y w
    have q2 := fun x y w => run_op4 (P := Tryz.prog) (op := .mul) opMu 48 x y w
    have sz1 := M1.2.2.2.2.2.2
    have S0 : FoS w (w1.alloc (.cells (madeCells #[.float .f64 0] N) 48)) N lo ls.length lc dO dn dc w1.heap.size N (fun _ => 0) :=
      ⟨M1.alloc _, RRow.made w1 N, by go_simp, sz1, B1.alloc B1.size _⟩
    have HFin : Hid (∀ z W, RRow W w1.heap.size N z → (∀ p, p < N → NR (fwO (lsF ls) ob p) (z p)) → Below w.heap.size w W → GaveF w (tab N (fwO (lsF ls) ob)) (.slice (some ⟨w1.heap.size, 0, none⟩) N N) W) := fun z W k1 k2 k3 =>
      ⟨some ⟨w1.heap.size, 0, none⟩, N, toL' N z, by rw [toL'_len], LN_tab (toL'_len _ _) (fun i hi => by rw [toL'_at hi]; exact k2 i hi), k1.grow (toL'_len _ _) (fun j hj => toL'_at hj), by rw [toL'_len]; exact Nat.le_refl _, fun a e => by cases e; exact B1.size, k3⟩
    generalize w1.alloc (.cells (madeCells #[.float .f64 0] N) 48) = W1 at *
    generalize w1.heap.size = g at *
    clear M1 f0 f1 f2 b1 B1 cr hmk M0
    go_loopg [7] N (fun gg s7 wr => ∃ (i : Nat) (z : Nat → Nat), i ≤ N ∧ gg = N - i ∧ s7 = .int .i64 i ∧ Hid (∀ p, p < i → NR (fwO (lsF ls) ob p) (z p)) ∧ FoS w wr N lo ls.length lc dO dn dc g N z)
    case atStart => exact ⟨0, _, Nat.zero_le _, rfl, rfl, fun p hp => by omega, S0⟩
    case round =>
      clear S0
      obtain ⟨i, z, hi, hg, rfl, hZ, S⟩ := hrel
      have HG : Hid (gk = N - i) := hg
      clear hg
      obtain ⟨x0, x1, x2, _⟩ := id S.fbox
      by_cases hlt : i < N
      · have i1 : (i : Int) < (N : Int) := by omega
        have hib : i < bs.length := by rw [HBN.out]; exact hlt
        have i2 : (i : Int) < (bs.length : Int) := by omega
        have hbi := hb i hib
        obtain ⟨b0, off, rfl⟩ : ∃ b off, bo = some ⟨b, off, none⟩ := by
          rcases hB with h | ⟨b, off, rfl, _⟩
          · omega
          · exact ⟨b, off, rfl⟩
        have hb0 := srow_to (w0 := w) hB S.below hib
        have HZ2 : Hid (NR (lesO (ob i) (fun k => toO (lsF ls i k)) (fwO (lsF ls) ob) 0) (bs.getD i 0)) := hbi
        generalize bs.getD i 0 = bi at *
        clear hbi
        go_wp2
        clear x0 x1 x2 hb0
        go_loopg [8, 9] i (fun gg s8 s9 wv => ∃ k r : Nat, k ≤ i ∧ gg = i - k ∧ s8 = .float .f64 r ∧ s9 = .int .i64 k ∧ Hid (NR (lesO (ob i) (fun k => toO (lsF ls i k)) (fwO (lsF ls) ob) k) r) ∧ Hid (Below wr.heap.size wr wv))
        case atStart => exact ⟨0, bi, Nat.zero_le _, rfl, rfl, rfl, HZ2, Below.refl _ _⟩
        case round =>
          clear HZ2
          obtain ⟨k, r, hk, hg, rfl, rfl, hR, hBl⟩ := hrel
          have HG2 : Hid (gk = i - k) := hg
          clear hg
          have SB := S.later hBl.out
          by_cases hlt2 : k < i
          · have i3 : (k : Int) < (i : Int) := by omega
            have htl : tri (i + 1) ≤ ls.length := by rw [HL.out]; exact tri_mono (by omega)
            have hlt3 := tri_in hlt2 hlt
            rw [← HL.out] at hlt3
            have hx : NR (toO (lsF ls i k)) (lsF ls i k) := toO_NR (fL.at hlt3)
            have cb := fun W h => rat13_any N ls lo lc dO dn dc i k W h (by omega) hlt2 htl
            have hzk := hZ.out k hlt2
            have HSU : Hid (∀ W W', NR (lesO (ob i) (fun k => toO (lsF ls i k)) (fwO (lsF ls) ob) (k + 1)) (opR .sub r (opR .mul (lsF ls i k) (z k) W) W')) := fun W W' => by
              rw [lesO]
              exact opO_NR opSu hR.out (opO_NR opMu hx hzk W) W'
            have SD := SB.later (Below.refl _ _).drew
            have hrow := hL.below SD.below
            have hki : k < N := by omega
            have hkI : (k : Int) < (N : Int) := by omega
            have HB0 := hBl.out.drew
            generalize lsF ls i k = x at *
            have HC : ∀ w1, Below wr.drew.heap.size wr.drew w1 → w1.cell? ⟨w.heap.size, 0, none⟩ = some (.int .i64 N) ∧ w1.cell? ⟨w.heap.size, 1, none⟩ = some (.slice lo ls.length lc) ∧ w1.cell? ⟨w.heap.size, 2, none⟩ = some (.slice dO dn dc) ∧ w1.cell? ⟨g, k, none⟩ = some (.float .f64 (z k)) := fun w1 hb => by
              have S2 := SD.later hb
              obtain ⟨x0, x1, x2, _⟩ := id S2.fbox
              exact ⟨x0, x1, x2, World.rowIs.cell S2.row hki⟩
            have m0 := HC _ (Below.refl _ _)
            have hop : ∀ op x y W a, (opW op x y W).cell? a = W.cell? a := fun op x y W a => by unfold World.cell?; rw [opW_heap]
            clear hR hx htl hlt3 hzk
            go_wp2
            first | (go_region_held (fun w' => w'.cell? ⟨w.heap.size, 0, none⟩ = some (.int .i64 N) ∧ w'.cell? ⟨w.heap.size, 1, none⟩ = some (.slice lo ls.length lc) ∧ w'.cell? ⟨w.heap.size, 2, none⟩ = some (.slice dO dn dc) ∧ w'.cell? ⟨g, k, none⟩ = some (.float .f64 (z k))) (go_keep)
              (first | (go_at_call 101; refine (cb _ hrow).mono ?_; rintro e w3 ⟨rfl, b3⟩; have m3 := HC _ b3))) | fail
            all_goals
              have B5 : Below _ _ w3 := HB0.trans (b3.mono HB0.size)
              go_wp2
              go_roundg (i - (k + 1))
              case measure => rw [HG2.out]; omega
              case rel => exact ⟨k + 1, _, by omega, rfl, rfl, by go_num, HSU.out _ _, opW_below .sub _ _ (opW_below .mul _ _ B5)⟩
          · have ek : k = i := by omega
            have i3 : ¬ (k : Int) < (i : Int) := by omega
            have HZ3 : Hid (∀ p, p < i + 1 → NR (fwO (lsF ls) ob p) (if p = i then r else z p)) := fun p hp => by
              by_cases e : p = i
              · rw [if_pos e, e, fwO_eq]; rw [ek] at hR; exact hR.out
              · rw [if_neg e]; exact hZ.out p (by omega)
            have g2 := World.rowIs.cell SB.row hlt
            have g3 := World.rowIs.frozen SB.row i
            have S4 := SB.set i r
            clear hR ek
            go_wp2
            go_roundg (N - (i + 1))
            case measure => rw [HG.out]; omega
            case rel => exact ⟨i + 1, _, by omega, rfl, by go_num, HZ3, S4⟩
      · have ei : i = N := by omega
        have i1 : ¬ (i : Int) < (N : Int) := by omega
        have hF := HFin.out z _ S.row (fun p hp => hZ.out p (by omega)) S.below
        clear hZ HFin
        go_wp2
        exact bodyPost_ret (v := .tuple #[.slice (some ⟨g, 0, none⟩) N N, .int .i64 0]) (by simp [results, Tryz.results71, go_sem]) rfl ⟨_, rfl, hF⟩
end Go.Proofs.YtmbcmhncicbbjaaGreatDoor

namespace Go.Proofs.YtmbcmhncicbbjaaGreatDoor
open Go.RowKit

set_option maxRecDepth 100000 in
set_option maxHeartbeats 4000000 in
theorem rback_any (n : Int) (ls ds bs : List Nat) (lo dO bo : Option Addr) (lc dc bc : Nat) (ob : Nat → Option Nat) (w : World) (hL : GRow w lo ls) (hD : GRow w dO ds) (hB : GRow w bo bs) (fL : FW ls) (fD : FW ds) (hb : ∀ i, i < bs.length → NR (ob i) (bs.getD i 0)) :
    Calls Tryz.prog 72 #[fcV n lo ls.length lc dO ds.length dc, .slice bo bs.length bc] w fun e w' => GaveLe w (bkA n ls ds bs.length ob) e w' := by
  have cr := fun W => rright13_any n lo dO ls.length lc ds.length dc W
  have M0 := B3.new w (.int .i64 n) (.slice lo ls.length lc) (.slice dO ds.length dc) 36
  cases q : fitF n ls.length ds.length bs.length
  · have eA : bkA n ls ds bs.length ob = ([], 4) := by unfold bkA; rw [q]; rfl
    rw [eA]
    unfold fitF at q
    cases q1 : rightF n ls.length ds.length
    · rw [q1] at cr
      go_enter Tryz.func72, Tryz.ntmps72
      go_wp2_with (go_at_call 100; refine (cr _).mono ?_; rintro e w1 ⟨rfl, b1⟩; have B1 := old_one b1)
      exact bodyPost_ret (v := .tuple #[.slice none 0 0, .int .i64 4]) (by simp [results, Tryz.results72, go_sem]) rfl ⟨_, rfl, GaveF.nil B1⟩
    · rw [q1] at cr
      rw [q1, Bool.true_and, decide_eq_false_iff_not] at q
      have e1 : ((bs.length : Int) != n) = true := by simp [q]
      clear q
      go_enter Tryz.func72, Tryz.ntmps72
      go_wp2_with (go_at_call 100; refine (cr _).mono ?_; rintro e w1 ⟨rfl, b1⟩; have B1 := old_one b1; obtain ⟨m0, m1, m2, _⟩ := M0.below b1)
      exact bodyPost_ret (v := .tuple #[.slice none 0 0, .int .i64 4]) (by simp [results, Tryz.results72, go_sem]) rfl ⟨_, rfl, GaveF.nil B1⟩
  · have q1 : rightF n ls.length ds.length = true := by unfold fitF at q; rw [Bool.and_eq_true] at q; exact q.1
    rw [q1] at cr
    clear q1
    obtain ⟨N, rfl, hN, hl, hd, hbn⟩ := fit_nat q
    have HL : Hid (ls.length = tri N) := hl
    have HBN : Hid (bs.length = N) := hbn
    have HDN : Hid (ds.length = N) := hd
    have e1 : ((bs.length : Int) != (N : Int)) = false := by simp; omega
    have cz := fun W h => rzero13_any N ds lo dO ls.length lc dc W h (by omega)
    cases qz : zL ds
    · rw [qz] at cz
      have eA : bkA N ls ds bs.length ob = (tab N (bkO (lsF ls) (qoO ds ob) N), 0) := by unfold bkA; rw [q, qz, Int.toNat_natCast]; rfl
      rw [eA]
      clear hl hbn hd q qz eA
      have hmk := run_make_row' (P := Tryz.prog) 22 48 (.float .f64 0) 8 Tryz.underlying22 Tryz.infoF rfl .i64 .i64 N (by omega) (by omega)
      go_enter Tryz.func72, Tryz.ntmps72
      go_wp2_with (first
        | (go_at_call 100; refine (cr _).mono ?_; rintro e w0 ⟨rfl, b0⟩; have M1 := M0.below b0; obtain ⟨f0, f1, f2, _⟩ := id M1; have B0 := old_one b0)
        | (go_at_call 102; refine (cz _ (hD.below B0)).mono ?_; rintro e w1 ⟨rfl, b1⟩; replace M1 := M1.below b1; clear f0 f1 f2; obtain ⟨f0, f1, f2, _⟩ := id M1; have B1 := B0.trans (b1.mono B0.size)))
      have hst := vstoref Tryz.prog
      have q0 := fun x y w => run_op4 (P := Tryz.prog) (op := .quo) opQs 48 x y w
      have q1 := fun x y w => run_op4 (P := Tryz.prog) (op := .sub) opSu 48 x y w
      have q2 := fun x y w => run_op4 (P := Tryz.prog) (op := .mul) opMu 48 x y w
      have sz1 := M1.2.2.2.2.2.2
      have S0 : FoS w (w1.alloc (.cells (madeCells #[.float .f64 0] N) 48)) N lo ls.length lc dO ds.length dc w1.heap.size N (fun _ => 0) :=
        ⟨M1.alloc _, RRow.made w1 N, by go_simp, sz1, B1.alloc B1.size _⟩
      have HFin : Hid (∀ z W, RRow W w1.heap.size N z → (∀ p, p < N → NR (bkO (lsF ls) (qoO ds ob) N p) (z p)) → Below w.heap.size w W → GaveF w (tab N (bkO (lsF ls) (qoO ds ob) N)) (.slice (some ⟨w1.heap.size, 0, none⟩) N N) W) := fun z W k1 k2 k3 =>
        ⟨some ⟨w1.heap.size, 0, none⟩, N, toL' N z, by rw [toL'_len], LN_tab (toL'_len _ _) (fun i hi => by rw [toL'_at hi]; exact k2 i hi), k1.grow (toL'_len _ _) (fun j hj => toL'_at hj), by rw [toL'_len]; exact Nat.le_refl _, fun a e => by cases e; exact B1.size, k3⟩
      generalize w1.alloc (.cells (madeCells #[.float .f64 0] N) 48) = W1 at *
      generalize w1.heap.size = g at *
      clear M1 f0 f1 f2 b0 b1 B0 B1 cr cz hmk M0
      go_loopg [7] N (fun gg s7 wr => ∃ (m : Nat) (z : Nat → Nat) (c : Int), m ≤ N ∧ gg = N - m ∧ s7 = .int .i64 c ∧ Hid (c + (m : Int) + 1 = (N : Int)) ∧ Hid (∀ p, N ≤ p + m → p < N → NR (bkO (lsF ls) (qoO ds ob) N p) (z p)) ∧ FoS w wr N lo ls.length lc dO ds.length dc g N z)
      case atStart => exact ⟨0, _, (N : Int) - 1, Nat.zero_le _, rfl, rfl, (show (N : Int) - 1 + ((0 : Nat) : Int) + 1 = (N : Int) by omega), fun p hp hp2 => by omega, S0⟩
      case round =>
        clear S0
        obtain ⟨m, z, c, hm, hg, rfl, hc, hX, S⟩ := hrel
        have HG2 : Hid (gk = N - m) := hg
        clear hg
        by_cases hlt : m < N
        · obtain ⟨a, ha⟩ : ∃ a, a + m + 1 = N := ⟨N - 1 - m, by omega⟩
          have HA : Hid (a + m + 1 = N) := ha
          have haN : a < N := by omega
          have eca : c = (a : Int) := by have := hc.out; omega
          subst eca
          clear ha hc
          have i0 : (0 : Int) ≤ (a : Int) := by omega
          have i1 : (a : Int) < (N : Int) := by omega
          have hib : a < bs.length := by rw [HBN.out]; exact haN
          have i2 : (a : Int) < (bs.length : Int) := by omega
          have hid : a < ds.length := by rw [HDN.out]; exact haN
          have i3 : (a : Int) < (ds.length : Int) := by omega
          have hbi := hb a hib
          have hdi : NR (toO (dsF ds a)) (ds.getD a 0) := toO_NR (fD.at hid)
          obtain ⟨b0, off, rfl⟩ : ∃ b off, bo = some ⟨b, off, none⟩ := by
            rcases hB with h | ⟨b, off, rfl, _⟩
            · omega
            · exact ⟨b, off, rfl⟩
          obtain ⟨d0, doff, rfl⟩ : ∃ b off, dO = some ⟨b, off, none⟩ := by
            rcases hD with h | ⟨b, off, rfl, _⟩
            · omega
            · exact ⟨b, off, rfl⟩
          have SD := S.later (Below.refl _ _).drew
          have HQ : Hid (∀ W, NR (lesO (qoO ds ob a) (fun s => toO (lsF ls (a + 1 + s) a)) (fun s => bkO (lsF ls) (qoO ds ob) N (a + 1 + s)) 0) (opR .quo (bs.getD a 0) (ds.getD a 0) W)) := fun W => opO_NR opQs hbi hdi W
          obtain ⟨x0, x1, x2, _⟩ := id SD.fbox
          have m0 := srow_to (w0 := w) hB SD.below hib
          have m1 := srow_to (w0 := w) hD SD.below hid
          generalize bs.getD a 0 = bi at *
          generalize ds.getD a 0 = di at *
          have hop : ∀ op x y W a, (opW op x y W).cell? a = W.cell? a := fun op x y W a => by unfold World.cell?; rw [opW_heap]
          clear hbi hdi
          go_upto_region 10 with fail
          go_cut [8] from 29 to 63 (fun s8 wx => ∃ r, s8 = .float .f64 r ∧ Hid (NR (lesO (qoO ds ob a) (fun s => toO (lsF ls (a + 1 + s) a)) (fun s => bkO (lsF ls) (qoO ds ob) N (a + 1 + s)) 0) r) ∧ FoS w wx N lo ls.length lc (some ⟨d0, doff, none⟩) ds.length dc g N z)
          case first =>
            first | (go_region_held (fun w' => w'.cell? ⟨w.heap.size, 2, none⟩ = some (.slice (some ⟨d0, doff, none⟩) ds.length dc) ∧ w'.cell? ⟨b0, off + a, none⟩ = some (.float .f64 bi) ∧ w'.cell? ⟨d0, doff + a, none⟩ = some (.float .f64 di)) (go_keep) (fail)) | fail
            all_goals
              go_wp2
              go_meet
              exact ⟨_, rfl, HQ.out _, SD.later (opW_below .quo bi di (Below.refl _ _))⟩
          clear x0 x1 x2 m0 m1 HQ SD S
          obtain ⟨r, rfl, HR, S⟩ := hcut
          go_wp2
          go_loopg [8, 9] (N - (a + 1)) (fun gg s8 s9 wv => ∃ s k r : Nat, k ≤ N ∧ gg = N - k ∧ s8 = .float .f64 r ∧ s9 = .int .i64 k ∧ Hid (a + 1 + s = k) ∧ Hid (NR (lesO (qoO ds ob a) (fun s => toO (lsF ls (a + 1 + s) a)) (fun s => bkO (lsF ls) (qoO ds ob) N (a + 1 + s)) s) r) ∧ Hid (Below wc.heap.size wc wv))
          case atStart => exact ⟨0, a + 1, r, by omega, rfl, rfl, by go_num, rfl, HR, Below.refl _ _⟩
          case round =>
            clear HR
            obtain ⟨s, k, r, hk, hg, rfl, rfl, hsk, hR, hBl⟩ := hrel
            have HG3 : Hid (gk = N - k) := hg
            clear hg
            have SB := S.later hBl.out
            obtain ⟨x0, x1, x2, _⟩ := id SB.fbox
            by_cases hkN : k < N
            · have hak : a < k := by have := hsk.out; omega
              have i4 : (k : Int) < (N : Int) := by omega
              have htl : tri (k + 1) ≤ ls.length := by rw [HL.out]; exact tri_mono (by omega)
              have hlt3 := tri_in hak hkN
              rw [← HL.out] at hlt3
              have hx : NR (toO (lsF ls k a)) (lsF ls k a) := toO_NR (fL.at hlt3)
              have cb := fun W h => rat13_any N ls lo lc (some ⟨d0, doff, none⟩) ds.length dc k a W h (by omega) hak htl
              have hzk := hX.out k (by have := HA.out; omega) hkN
              have HSU : Hid (∀ W W', NR (lesO (qoO ds ob a) (fun s => toO (lsF ls (a + 1 + s) a)) (fun s => bkO (lsF ls) (qoO ds ob) N (a + 1 + s)) (s + 1)) (opR .sub r (opR .mul (lsF ls k a) (z k) W) W')) := fun W W' => by
                rw [lesO, hsk.out]
                exact opO_NR opSu hR.out (opO_NR opMu hx hzk W) W'
              have HS1 : Hid (a + 1 + (s + 1) = k + 1) := (show _ = _ by have := hsk.out; omega)
              have SD := SB.later (Below.refl _ _).drew
              have hrow := hL.below SD.below
              have HB0 := hBl.out.drew
              generalize lsF ls k a = x at *
              have HC : ∀ w1, Below wr.drew.heap.size wr.drew w1 → w1.cell? ⟨w.heap.size, 0, none⟩ = some (.int .i64 N) ∧ w1.cell? ⟨w.heap.size, 1, none⟩ = some (.slice lo ls.length lc) ∧ w1.cell? ⟨w.heap.size, 2, none⟩ = some (.slice (some ⟨d0, doff, none⟩) ds.length dc) ∧ w1.cell? ⟨g, k, none⟩ = some (.float .f64 (z k)) := fun w1 hb => by
                have S2 := SD.later hb
                obtain ⟨x0, x1, x2, _⟩ := id S2.fbox
                exact ⟨x0, x1, x2, World.rowIs.cell S2.row hkN⟩
              have m0 := HC _ (Below.refl _ _)
              clear hR hx htl hlt3 hzk hsk
              go_wp2
              clear x0 x1 x2
              first | (go_region_held (fun w' => w'.cell? ⟨w.heap.size, 0, none⟩ = some (.int .i64 N) ∧ w'.cell? ⟨w.heap.size, 1, none⟩ = some (.slice lo ls.length lc) ∧ w'.cell? ⟨w.heap.size, 2, none⟩ = some (.slice (some ⟨d0, doff, none⟩) ds.length dc) ∧ w'.cell? ⟨g, k, none⟩ = some (.float .f64 (z k))) (go_keep)
                (first | (go_at_call 101; refine (cb _ hrow).mono ?_; rintro e w3 ⟨rfl, b3⟩; have m3 := HC _ b3))) | fail
              all_goals
                have B5 : Below _ _ w3 := HB0.trans (b3.mono HB0.size)
                go_wp2
                go_roundg (N - (k + 1))
                case measure => rw [HG3.out]; omega
                case rel => exact ⟨s + 1, k + 1, _, by omega, rfl, rfl, by go_num, HS1, HSU.out _ _, opW_below .sub _ _ (opW_below .mul _ _ B5)⟩
            · have ek : k = N := by omega
              have i4 : ¬ (k : Int) < (N : Int) := by omega
              have HX2 : Hid (∀ p, N ≤ p + (m + 1) → p < N → NR (bkO (lsF ls) (qoO ds ob) N p) (if p = a then r else z p)) := fun p hp hp2 => by
                by_cases e : p = a
                · have es : s = m := by have := HA.out; have := hsk.out; omega
                  rw [if_pos e, e, bkO_eq HA.out]; rw [es] at hR; exact hR.out
                · rw [if_neg e]; exact hX.out p (by have := HA.out; omega) hp2
              have HC2 : Hid ((a : Int) - 1 + ((m + 1 : Nat) : Int) + 1 = (N : Int)) := (show _ = _ by have := HA.out; omega)
              have g2 := World.rowIs.cell SB.row haN
              have g3 := World.rowIs.frozen SB.row a
              have S4 := SB.set a r
              clear hR ek hX hsk
              go_wp2
              go_roundg (N - (m + 1))
              case measure => rw [HG2.out]; omega
              case rel => exact ⟨m + 1, _, (a : Int) - 1, by omega, rfl, rfl, HC2, HX2, S4⟩
        · have ei : m = N := by omega
          have i2 : ¬ (0 : Int) ≤ c := by have := hc.out; omega
          have hF := HFin.out z _ S.row (fun p hp => hX.out p (by omega) hp) S.below
          clear hX HFin
          go_wp2
          exact bodyPost_ret (v := .tuple #[.slice (some ⟨g, 0, none⟩) N N, .int .i64 0]) (by simp [results, Tryz.results72, go_sem]) rfl ⟨_, rfl, hF⟩
    · rw [qz] at cz
      have eA : bkA N ls ds bs.length ob = ([], 7) := by unfold bkA; rw [q, qz]; rfl
      rw [eA]
      clear hl hbn hd q qz eA
      go_enter Tryz.func72, Tryz.ntmps72
      go_wp2_with (first
        | (go_at_call 100; refine (cr _).mono ?_; rintro e w0 ⟨rfl, b0⟩; have M1 := M0.below b0; obtain ⟨f0, f1, f2, _⟩ := id M1; have B0 := old_one b0)
        | (go_at_call 102; refine (cz _ (hD.below B0)).mono ?_; rintro e w1 ⟨rfl, b1⟩; have B1 := B0.trans (b1.mono B0.size)))
      exact bodyPost_ret (v := .tuple #[.slice none 0 0, .int .i64 7]) (by simp [results, Tryz.results72, go_sem]) rfl ⟨_, rfl, GaveF.nil B1⟩
end Go.Proofs.YtmbcmhncicbbjaaGreatDoor

namespace Go.Proofs.YtmbcmhncicbbjaaGreatDoor
open Go.RowKit

set_option maxHeartbeats 1000000 in
theorem rsolve_any (n : Int) (ls ds bs : List Nat) (lo dO bo : Option Addr) (lc dc bc : Nat) (ob : Nat → Option Nat) (w : World) (hL : GRow w lo ls) (hD : GRow w dO ds) (hB : GRow w bo bs) (fL : FW ls) (fD : FW ds) (hb : ∀ i, i < bs.length → NR (ob i) (bs.getD i 0)) :
    Calls Tryz.prog 39 #[fcV n lo ls.length lc dO ds.length dc, .slice bo bs.length bc] w fun e w' => GaveLe w (slA n ls ds bs.length ob) e w' := by
  have cf := fun W h1 h2 => rforward_any n ls bs lo dO bo lc ds.length dc bc ob W h1 h2 fL hb
  have cb := fun W rs (ro : Option Addr) (rc : Nat) h1 h2 h3 (hr : ∀ i, i < rs.length → NR (fwO (lsF ls) ob i) (rs.getD i 0)) => rback_any n ls ds rs lo dO ro lc dc rc (fwO (lsF ls) ob) W h1 h2 h3 fL fD hr
  have B0 := below_one w (.cells #[.int .i64 n, .slice lo ls.length lc, .slice dO ds.length dc] 36)
  have M0 := B3.new w (.int .i64 n) (.slice lo ls.length lc) (.slice dO ds.length dc) 36
  cases q : fitF n ls.length ds.length bs.length
  · have e1 : fwA n ls ds.length bs.length ob = ([], 4) := by unfold fwA; rw [q]; rfl
    have e2 : slA n ls ds bs.length ob = ([], 4) := by unfold slA; rw [q]; rfl
    rw [e1] at cf
    rw [e2]
    go_enter Tryz.func39, Tryz.ntmps39
    go_wp2_with (go_at_call 71; refine (cf _ (hL.below B0) (hB.below B0)).mono ?_; rintro e w1 ⟨_, rfl, ro, rc, rs, rfl, g1, g2, g3, g4, b1⟩; have B1 := B0.trans (b1.mono B0.size))
    exact bodyPost_ret (v := .tuple #[.slice none 0 0, .int .i64 4]) (by simp [results, Tryz.results39, go_sem]) rfl ⟨_, rfl, GaveF.nil B1⟩
  · have hE := fun rs (hr : LN (fwA n ls ds.length bs.length ob).1 rs) => fw_bk q hr
    have e0 : (fwA n ls ds.length bs.length ob).2 = 0 := by unfold fwA; rw [q]; rfl
    generalize fwA n ls ds.length bs.length ob = A at *
    obtain ⟨os, er⟩ := A
    simp only at e0 hE
    subst e0
    generalize slA n ls ds bs.length ob = B at *
    clear q
    go_enter Tryz.func39, Tryz.ntmps39
    go_wp2_with (first
      | (go_at_call 71; refine (cf _ (hL.below B0) (hB.below B0)).mono ?_; rintro e w1 ⟨_, rfl, ro, rc, rs, rfl, g1, g2, g3, g4, b1⟩; have B1 := B0.trans (b1.mono B0.size); obtain ⟨m0, m1, m2, _⟩ := M0.below b1)
      | (go_at_call 72; have hE2 := hE rs g1; refine (cb _ rs ro rc (hL.below B1) (hD.below B1) g2 hE2.2.2).mono ?_; rw [← hE2.1]; rintro e w2 ⟨_, rfl, yo, yc, ys, rfl, k1, k2, k3, k4, b2⟩; have HG := (show GaveF w B.1 (.slice yo ys.length yc) w2 from GaveF.up' ⟨yo, yc, ys, rfl, k1, k2, k3, k4, b2⟩ B1)))
    exact bodyPost_ret (v := .tuple #[.slice yo ys.length yc, .int .i64 B.2]) (by simp [results, Tryz.results39, go_sem, hE2.1]) rfl ⟨_, rfl, HG⟩
end Go.Proofs.YtmbcmhncicbbjaaGreatDoor
