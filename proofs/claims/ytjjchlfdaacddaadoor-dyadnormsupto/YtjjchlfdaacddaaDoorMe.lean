/- DyadScales, whatever dyad and power it is given: the walk (the library's table lying as its initialiser lays it). -/
import Derived.Test.YtjjchlfdaacddaaDoorMd
import Derived.Test.YtjjchlfdaacddaaDoorMb
import Derived.Test.YtjjchlfdaacddaaDoorEm
import Derived.Test.YtjjchlfdaacddaaDoorHa
import Derived.Deep.DeepCutAuto
namespace Go.Proofs.YtjjchlfdaacddaaDoor
open Go.RowKit

theorem Hd.far {w w1 : World} {g p : Nat} {d : Dy} {ao : Option Addr} {cap : Nat} (h : Hd w p d ao cap) (hg : w.grownBy w1 (some g)) (hp : p ≠ g) (hne : ∀ a, ao = some a → a.block ≠ g) : Hd w1 p d ao cap :=
  ⟨hg.cell h.c0 (fun e => hp (by injection e)), hg.cell h.c1 (fun e => hp (by injection e)), hg.cell h.c2 (fun e => hp (by injection e)), h.row.far hg hne⟩
theorem below_far {w w1 w2 : World} {g : Nat} (h : Below w.heap.size w w1) (hg : w1.grownBy w2 (some g)) (hl : w.heap.size ≤ g) : Below w.heap.size w w2 :=
  h.grown hg h.size (fun k hk => by cases hk; exact hl)
theorem scaleD_len (d : Dy) (n : Int) : (scaleD d n).1.mag.length ≤ 256 := by
  unfold scaleD
  split
  · simp [dy0]
  · rename_i h
    split
    · simp [dy0]
    · split
      · simp [dy0]
      · have h' : rightB d = true := by simpa using h
        exact (right_exp h').2.2
set_option maxHeartbeats 4000000 in
set_option maxRecDepth 100000 in
theorem scales_law (d : Dy) (n : Int) (ao : Option Addr) (cap : Nat) (w : World) (hr : NS w ao cap d.mag) (hL : Lm d.mag) (hn : d.mag.length ≤ 17592186044416) (h1 : -9223372036854775808 ≤ n) (h2 : n ≤ 9223372036854775807) (hT : TabW w) :
    Calls Tryd.prog 6 #[.agg #[.bool d.neg, .slice ao d.mag.length cap, .int .i64 d.exp], .int .i64 n] w fun e w' => e = .returned (.bool true) ∧ Below w.heap.size w w' := by
  have hS := fun o c w' (h : LRow w' o d.mag) => scale_any d n o c w' h hL
  have hD := fun w' (h : NS w' ao cap d.mag) => dscale_any d n ao cap w' h hL h1 h2
  have hrl := scaleD_len d n
  obtain ⟨⟨r, rk⟩, hrr⟩ : ∃ r, scaleD d n = r := ⟨_, rfl⟩
  rw [hrr] at hS hD hrl
  simp only at hrl
  clear hrr
  have hao : ∀ a, ao = some a → d.mag.length ≠ 0 → a.block < w.heap.size := fun a e h0 => by
    rcases hr.1 with h | ⟨b, off, e2, hc⟩
    · exact absurd h h0
    · rw [e] at e2; cases e2; exact World.block_lt_of_cell? w _ (hc 0 (by omega))
  go_enter Tryd.func6, Tryd.ntmps6
  go_upto_region 3 with (go_at_call 8; refine (awake_any _ (tabW_alloc hT _)).mono ?_; rintro e w1 ⟨rfl, hb1⟩)
  obtain ⟨⟨c0, c1, c2⟩, ho1⟩ := one_box hb1
  have Hq : Hd w1 w.heap.size d ao cap := ⟨c0, c1, c2, hr.1.below ho1⟩
  have hs1 : w.heap.size < w1.heap.size := by have h := hb1.size; simp at h; omega
  clear hb1 c0 c1 c2
  go_cut [13, 14, 5] (fun _ _ s5 wx => ∃ P g, s5 = .pointer (some ⟨P, 0, none⟩) ∧ Hd wx P d (some ⟨g, 0, none⟩) (d.mag.length + 12) ∧ Lent wx g d.mag ∧ Hd wx w.heap.size d ao cap ∧ w.heap.size < g ∧ g < P ∧ P < wx.heap.size ∧ Below w.heap.size w wx)
  case first =>
    as_aux_lemma =>
      have hLd := lentDyad_any d ao cap w1 Hq.row hr.2.1 hn
      obtain ⟨a0, a1, a2, ar⟩ := id Hq
      go_wp2_with (go_at_call 9; refine hLd.mono ?_; rintro e w2 ⟨g, rfl, hl, hg, hb⟩)
      go_meet
      have hlt := hl.lt
      have hb' := hb.alloc hb.size (.cells #[.bool d.neg, .slice (some ⟨g, 0, none⟩) d.mag.length (d.mag.length + 12), .int .i64 d.exp] 24)
      exact ⟨_, g, rfl, Hd.new hl.lrow, hl.alloc _, Hq.below hb', by omega, hlt, by simp, ho1.trans (hb'.mono ho1.size)⟩
  obtain ⟨P, g, rfl, Hp, hl, Hq, hg1, hg2, hg3, hB⟩ := hcut
  obtain ⟨wq, hwq⟩ : ∃ wq, wq = wc := ⟨_, rfl⟩
  subst hwq
  clear ho1 hs1
  go_upto_region 4 with fail
  go_cut [16, 17, 18, 15, 19, 20, 6, 7] (fun _ _ _ _ _ _ s6 s7 wx => ∃ Q o c, s6 = .pointer (some ⟨Q, 0, none⟩) ∧ s7 = .int .i64 rk ∧ Hd wx Q r o c ∧ Frs (g + 1) o ∧ g < Q ∧ Hd wx P d (some ⟨g, 0, none⟩) (d.mag.length + 12) ∧ Lent wx g d.mag ∧ Hd wx w.heap.size d ao cap ∧ Below w.heap.size w wx)
  case first =>
    as_aux_lemma =>
      have hc := hS _ (d.mag.length + 12) wq Hp.row
      obtain ⟨a0, a1, a2, ar⟩ := id Hp
      go_wp2_with (go_at_call 35; refine hc.mono ?_; rintro e w2 ⟨o, c, rfl, hrow, hfr, hb⟩)
      go_meet
      have hs := hb.size
      have hb' := hb.alloc hb.size (.cells #[.bool r.neg, .slice o r.mag.length c, .int .i64 r.exp] 24)
      exact ⟨_, o, c, rfl, rfl, Hd.new hrow, hfr.mono (by omega), by omega, Hp.below hb', hl.below hb', Hq.below hb', hB.trans (hb'.mono hB.size)⟩
  obtain ⟨Q, o, c, rfl, rfl, Hr, hfo, hgq, Hp, hl, Hq, hB⟩ := hcut
  obtain ⟨wq, hwq⟩ : ∃ wq, wq = wc := ⟨_, rfl⟩
  subst hwq
  go_upto_region 5 with fail
  go_cut [21, 22, 23, 8] (fun _ _ _ s8 wx => s8 = .bool true ∧ Hd wx Q r o c ∧ Hd wx P d (some ⟨g, 0, none⟩) (d.mag.length + 12) ∧ Lent wx g d.mag ∧ Hd wx w.heap.size d ao cap ∧ Below w.heap.size w wx)
  case first =>
    as_aux_lemma =>
      have hc := keptDyad_any d ao cap g wq Hq.row hl hn
      obtain ⟨a0, a1, a2, ar⟩ := id Hp
      obtain ⟨b0, b1, b2, br⟩ := id Hq
      go_wp2_with (go_at_call 13; refine hc.mono ?_; rintro e w2 ⟨rfl, hb⟩)
      go_meet
      exact ⟨rfl, Hr.below hb, Hp.below hb, hl.below hb, Hq.below hb, hB.trans (hb.mono hB.size)⟩
  obtain ⟨rfl, Hr, Hp, hl, Hq, hB⟩ := hcut
  obtain ⟨wq, hwq⟩ : ∃ wq, wq = wc := ⟨_, rfl⟩
  subst hwq
  go_upto_region 6 with fail
  go_cut [24, 25] (fun _ _ wx => Hd wx Q r o c ∧ Hd wx w.heap.size d ao cap ∧ Below w.heap.size w wx)
  case first =>
    as_aux_lemma =>
      have hc := overDyad_any d g wq hl hn
      obtain ⟨a0, a1, a2, ar⟩ := id Hp
      go_wp2_with (go_at_call 14; refine hc.mono ?_; rintro e w2 ⟨rfl, hb⟩)
      go_meet
      refine ⟨Hr.far hb (by omega) (fun a e => by have h := hfo a e; omega), ⟨hb.cell Hq.c0 (fun e => (show w.heap.size ≠ g by omega) (Option.some.inj e)), hb.cell Hq.c1 (fun e => (show w.heap.size ≠ g by omega) (Option.some.inj e)), hb.cell Hq.c2 (fun e => (show w.heap.size ≠ g by omega) (Option.some.inj e)), ?_⟩, below_far hB hb (by omega)⟩
      by_cases h0 : d.mag.length = 0
      · exact Or.inl h0
      · exact Hq.row.far hb (fun a e => by have h := hao a e h0; omega)
  obtain ⟨Hr, Hq, hB⟩ := hcut
  obtain ⟨wq, hwq⟩ : ∃ wq, wq = wc := ⟨_, rfl⟩
  subst hwq
  clear hl Hp
  go_upto_region 7 with fail
  go_cut [27, 28, 29, 26, 30, 31, 9, 10] (fun _ _ _ _ _ _ s9 s10 wx => ∃ R o' c', s9 = .pointer (some ⟨R, 0, none⟩) ∧ s10 = .int .i64 rk ∧ Hd wx R r o' c' ∧ Hd wx Q r o c ∧ Below w.heap.size w wx)
  case first =>
    as_aux_lemma =>
      have hc := hD wq ⟨Hq.row, hr.2⟩
      obtain ⟨a0, a1, a2, ar⟩ := id Hq
      go_wp2_with (go_at_call 36; refine hc.mono ?_; rintro e w2 ⟨o', c', rfl, hrow, hfr, hb⟩)
      go_meet
      have hb' := hb.alloc hb.size (.cells #[.bool r.neg, .slice o' r.mag.length c', .int .i64 r.exp] 24)
      exact ⟨_, o', c', rfl, rfl, Hd.new hrow.1, Hr.below hb', hB.trans (hb'.mono hB.size)⟩
  obtain ⟨R, o', c', rfl, rfl, Hs, Hr, hB⟩ := hcut
  obtain ⟨wq, hwq⟩ : ∃ wq, wq = wc := ⟨_, rfl⟩
  subst hwq
  have hk : (rk == rk) = true := by simp
  have hc := sameDyad_any r r o o' c c' wq Hr.row Hs.row (by omega)
  rw [eqB_self] at hc
  obtain ⟨a0, a1, a2, ar⟩ := Hr
  obtain ⟨b0, b1, b2, br⟩ := Hs
  go_wp2_with (go_at_call 18; refine hc.mono ?_; rintro e w2 ⟨rfl, hb⟩)
  go_ret
  exact ⟨rfl, hB.trans (hb.mono hB.size)⟩
end Go.Proofs.YtjjchlfdaacddaaDoor
