/- What inNone answers: the exact sum, rounded. -/
import Derived.Test.YtdjljbcigobdpaaDoorBi
namespace Go.Proofs.YtdjljbcigobdpaaDoor
open Go.RowKit

theorem ldrew {w w1 : World} (h : Below w.drew.heap.size w.drew w1) : Below w.heap.size w w1 := ⟨h.os, h.tape, h.output, h.size, h.block⟩
/-- A box of three cells that may be written. -/
def Fz (w : World) (p : Nat) : Prop := w.frozen? ⟨p, 0, none⟩ = false ∧ w.frozen? ⟨p, 1, none⟩ = false ∧ w.frozen? ⟨p, 2, none⟩ = false
theorem Fz.below {w w1 : World} {p : Nat} (h : Fz w p) (hp : p < w.heap.size) (hb : Below w.heap.size w w1) : Fz w1 p := by
  obtain ⟨_, hf⟩ := oldc hb
  exact ⟨(hf _ _ hp).trans h.1, (hf _ _ hp).trans h.2.1, (hf _ _ hp).trans h.2.2⟩
theorem put3 {w : World} {p B : Nat} {a : Option Addr} {c : Nat} {D E : Dy} {ao : Option Addr} {cap : Nat} (h : Hd w p D ao cap) (hz : Fz w p) (hr : LRow w a E.mag) (hf : Frs B a) (hp : p < B) :
    Hd (((w.setCell ⟨p, 0, none⟩ (.bool E.neg)).setCell ⟨p, 1, none⟩ (.slice a E.mag.length c)).setCell ⟨p, 2, none⟩ (.int .i64 E.exp)) p E a c ∧ Fz (((w.setCell ⟨p, 0, none⟩ (.bool E.neg)).setCell ⟨p, 1, none⟩ (.slice a E.mag.length c)).setCell ⟨p, 2, none⟩ (.int .i64 E.exp)) p := by
  have s0 : (w.setCell ⟨p, 0, none⟩ (.bool E.neg)).cell? ⟨p, 0, none⟩ = some (.bool E.neg) := World.cell?_setCell_same w _ _ h.c0
  have s1 : (w.setCell ⟨p, 0, none⟩ (.bool E.neg)).cell? ⟨p, 1, none⟩ = some (.slice ao D.mag.length cap) := (World.cell?_setCell_other w _ _ _ (by simp)).trans h.c1
  have s2 : (w.setCell ⟨p, 0, none⟩ (.bool E.neg)).cell? ⟨p, 2, none⟩ = some (.int .i64 D.exp) := (World.cell?_setCell_other w _ _ _ (by simp)).trans h.c2
  have t0 := (World.cell?_setCell_other _ ⟨p, 1, none⟩ ⟨p, 0, none⟩ (.slice a E.mag.length c) (by simp)).trans s0
  have t1 := World.cell?_setCell_same _ _ (.slice a E.mag.length c) s1
  have t2 := (World.cell?_setCell_other _ ⟨p, 1, none⟩ ⟨p, 2, none⟩ (.slice a E.mag.length c) (by simp)).trans s2
  refine ⟨⟨(World.cell?_setCell_other _ _ _ _ (by simp)).trans t0, (World.cell?_setCell_other _ _ _ _ (by simp)).trans t1, World.cell?_setCell_same _ _ _ t2, ((hr.box hf hp _ _).box hf hp _ _).box hf hp _ _⟩, ?_⟩
  obtain ⟨f0, f1, f2⟩ := hz
  refine ⟨?_, ?_, ?_⟩ <;> simp [go_sem, f0, f1, f2]
set_option maxRecDepth 100000 in
set_option maxHeartbeats 4000000 in
theorem innone_any (xs : List Nat) (ao : Option Addr) (cap B : Nat) (m : Int) (Ds T : Nat → Dy) (w : World) (hT : TabW w) (hr : GRow w ao xs) (hF : FW xs) (hn : xs.length ≤ 1125899906842624) (hB : w.cell? ⟨B, 0, none⟩ = some (.slice ao xs.length cap))
    (hO : ∀ k, k < xs.length → ofD (xs.getD k 0) = (Ds k, 0) ∧ Lm (Ds k).mag) (hT0 : T 0 = dy0) (hA : ∀ k, k < xs.length → addD (T k) (Ds k) = (T (k + 1), 0)) (hL : ∀ k, k ≤ xs.length → Lm (T k).mag) (hR : rightB (T xs.length) = true) :
    Calls Tryd.prog 23 #[.int .i64 xs.length, .int .i8 m, .func (.func 24) #[] #[.pointer (some ⟨B, 0, none⟩)]] w fun e w' => e = .returned (.float .f64 (rndW (T xs.length) m)) ∧ Below w.heap.size w w' := by
  have e0 : (T 0).neg = false ∧ (T 0).mag = [] ∧ (T 0).exp = 0 := by rw [hT0]; exact ⟨rfl, rfl, rfl⟩
  go_enter Tryd.func23, Tryd.ntmps23
  go_wp2
  go_loopg [8, 13] xs.length (fun g _ i wr => ∃ k : Nat, ∃ a c, k ≤ xs.length ∧ g = xs.length - k ∧ i = .int .i64 k ∧ Hid (Hd wr w.heap.size (T k) a c) ∧ Hid (Fz wr w.heap.size) ∧ Hid (Frs (w.heap.size + 1) a) ∧ Hid (Below w.heap.size w wr))
  case atStart =>
    refine ⟨0, none, 0, Nat.zero_le _, rfl, rfl, (show Hd _ _ _ _ _ from ⟨?_, ?_, ?_, Or.inl (by rw [e0.2.1]; rfl)⟩), (show Fz _ _ from ⟨?_, ?_, ?_⟩), Frs.none _, (show Below _ _ _ from (Below.refl _ _).alloc (Nat.le_refl _) _)⟩
    · rw [e0.1]; go_simp
    · rw [e0.2.1]; go_simp
    · rw [e0.2.2]; go_simp
    all_goals go_simp
  case round =>
    obtain ⟨k, a, c, hk, hg, rfl, hH, hZ, hfr, hBl⟩ := hrel
    have HG : Hid (gk = xs.length - k) := hg
    clear hg
    have hP : w.heap.size < wr.heap.size := World.block_lt_of_cell? wr _ hH.out.c0
    by_cases hlt : k < xs.length
    · have hBw : wr.cell? ⟨B, 0, none⟩ = some (.slice ao xs.length cap) := by
        rw [hBl.out.cell (World.block_lt_of_cell? w _ hB)]; exact hB
      rcases hr.below hBl.out with h | ⟨b, off, rfl, hc⟩
      · omega
      · have hTr := tabW_below hT hBl.out
        have ce := exact1_any xs b off cap B k _ (Ds k) rfl (hF.at hlt) (hO k hlt).1 wr.drew hTr (hc k hlt) hlt hBw
        have oa := fun ao bo cap bcap w h1 h2 h3 => Add_any (T k) (Ds k) ao bo cap bcap w h1 h2 (hL k hk) (hO k hlt).2 h3
        rw [hA k hlt] at oa
        have HH := hH.out
        have HZ := hZ.out
        have HF := hfr.out
        have HB := hBl.out
        have k0 := HH.c0
        have k1 := HH.c1
        have k2 := HH.c2
        obtain ⟨f0, f1, f2⟩ := hZ.out
        have i1 : (k : Int) < (xs.length : Int) := by omega
        clear hc hO hA hL hR hF hBw
        generalize Ds k = D at *
        go_wp2
        go_region_with
          (first
            | (go_at_call 24; refine ce.mono ?_; rintro e x1 ⟨ax, cx, rfl, r1, _, y1⟩; have z1 := ldrew y1; have H1 := HH.below z1; have k0 := H1.c0; have k1 := H1.c1; have k2 := H1.c2; have T1 := tabW_below hTr z1)
            | (go_at_call 28; refine (oa _ _ _ _ _ H1.row r1 T1).mono ?_; rintro e x2 ⟨ae, cae, rfl, r2, fr2, y2⟩; have z2 := z1.trans (y2.mono z1.size); have H2 := HH.below z2; have k0 := H2.c0; have k1 := H2.c1; have k2 := H2.c2; have Z2 := HZ.below hP z2; obtain ⟨f0, f1, f2⟩ := Z2; have Z2 := HZ.below hP z2))
        all_goals
          have hfe : Frs (w.heap.size + 1) ae := fr2.mono (by have := z1.size; omega)
          have hBz := HB.trans (z2.mono HB.size)
          have P3 := put3 (c := cae) H2 Z2 r2 hfe (by omega)
          go_wp2
          go_roundg (xs.length - (k + 1))
          case measure => rw [HG.out]; omega
          case rel => exact ⟨k + 1, ae, cae, by omega, rfl, by go_num, P3.1, P3.2, hfe, ((hBz.setCell (Nat.le_refl _) _).setCell (Nat.le_refl _) _).setCell (Nat.le_refl _) _⟩
    · have ek : k = xs.length := by omega
      subst ek
      have hRo := fun w h => Round_ok (T xs.length).neg (T xs.length).mag (T xs.length).exp a c m w h (hL _ (Nat.le_refl _)) hR
      have HH := hH.out
      have k0 := HH.c0
      have k1 := HH.c1
      have k2 := HH.c2
      have hrow := HH.row
      have HB := hBl.out
      have i1 : ¬ (xs.length : Int) < (xs.length : Int) := by omega
      clear hO hA hL hR hF
      go_wp2_with (go_at_call 29; refine (hRo _ hrow).mono ?_; rintro e w2 ⟨rfl, b2⟩)
      go_ret
      exact ⟨rfl, HB.trans (b2.mono HB.size)⟩
end Go.Proofs.YtdjljbcigobdpaaDoor
