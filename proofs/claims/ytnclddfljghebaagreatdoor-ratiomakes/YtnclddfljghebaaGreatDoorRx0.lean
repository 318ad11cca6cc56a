/- Ratios: Add, Sub, Mul, Div, Cmp of what is not right. (Written by mkrx0.py.) -/
import Derived.Test.YtnclddfljghebaaGreatDoorRu0
namespace Go.Proofs.YtnclddfljghebaaGreatDoor
open Go.RowKit

set_option maxRecDepth 100000 in
set_option maxHeartbeats 1000000 in
theorem raddw7_any (n1 n2 : Bool) (xs ys us vs : List Nat) (ao1 bo1 ao2 bo2 : Option Addr) (ac1 bc1 ac2 bc2 : Nat) (w : World) (a1 : LRow w ao1 xs) (b1 : LRow w bo1 ys) (hL : Lm xs) (hM : Lm ys) (hT : TabW w) (hn : rtB n1 xs ys = false) :
    Calls Tryz.prog 20 #[.agg #[.bool n1, .slice ao1 xs.length ac1, .slice bo1 ys.length bc1], .agg #[.bool n2, .slice ao2 us.length ac2, .slice bo2 vs.length bc2]] w (GaveR w none 2) := by
  have hs1 : (w.alloc (.cells #[.bool n1, .slice ao1 xs.length ac1, .slice bo1 ys.length bc1] 24)).heap.size = w.heap.size + 1 := by simp
  have hs2 : ((w.alloc (.cells #[.bool n1, .slice ao1 xs.length ac1, .slice bo1 ys.length bc1] 24)).alloc (.cells #[.bool n2, .slice ao2 us.length ac2, .slice bo2 vs.length bc2] 24)).heap.size = w.heap.size + 1 + 1 := by simp
  have AB := ((B3q.new w (.bool n1) (.slice ao1 xs.length ac1) (.slice bo1 ys.length bc1) 24).alloc (.cells #[.bool n2, .slice ao2 us.length ac2, .slice bo2 vs.length bc2] 24)).alloc (.cells #[.bool false, .slice none 0 0, .slice none 0 0] 24)
  have OB := B3q.new ((w.alloc (.cells #[.bool n1, .slice ao1 xs.length ac1, .slice bo1 ys.length bc1] 24)).alloc (.cells #[.bool n2, .slice ao2 us.length ac2, .slice bo2 vs.length bc2] 24)) (.bool false) (.slice none 0 0) (.slice none 0 0) 24
  rw [hs2] at OB
  have hb0 : Below w.heap.size w (((w.alloc (.cells #[.bool n1, .slice ao1 xs.length ac1, .slice bo1 ys.length bc1] 24)).alloc (.cells #[.bool n2, .slice ao2 us.length ac2, .slice bo2 vs.length bc2] 24)).alloc (.cells #[.bool false, .slice none 0 0, .slice none 0 0] 24)) := (((Below.refl w.heap.size w).alloc (Nat.le_refl _) _).alloc (by rw [hs1]; omega) _).alloc (by rw [hs2]; omega) _
  have r1 := rright_any n1 xs ys ao1 bo1 ac1 bc1 _ (a1.below hb0) (b1.below hb0) hL hM (tabW_below hT hb0)
  rw [hn] at r1
  unfold GaveR
  clear hn hT hs1 hs2
  go_enter Tryz.func20, Tryz.ntmps20
  go_upto_region 1 with fail
  generalize ((w.alloc (.cells #[.bool n1, .slice ao1 xs.length ac1, .slice bo1 ys.length bc1] 24)).alloc (.cells #[.bool n2, .slice ao2 us.length ac2, .slice bo2 vs.length bc2] 24)).alloc (.cells #[.bool false, .slice none 0 0, .slice none 0 0] 24) = W0 at *
  obtain ⟨x0, x1, x2, _, _, _, _, _⟩ := id AB
  obtain ⟨o0, o1, o2, q0, q1, q2, _, olt⟩ := id OB
  go_wp2_with (go_at_call 11; refine r1.mono ?_; rintro e w3 ⟨rfl, b3⟩; have hb3 := hb0.trans (b3.mono hb0.size); have OB3 := OB.below b3; obtain ⟨p0, p1, p2, s0, s1, s2, _, _⟩ := id OB3)
  exact bodyPost_ret (v := .tuple #[.agg #[.bool false, .slice none 0 0, .slice none 0 0], .int .i64 2]) (by simp [results, Tryz.results20, go_sem, p0, p1, p2]) rfl ⟨rfl, below_three hb3 (by omega) _ _ _⟩
set_option maxRecDepth 100000 in
set_option maxHeartbeats 1000000 in
theorem raddx7_any (n1 n2 : Bool) (xs ys us vs : List Nat) (ao1 bo1 ao2 bo2 : Option Addr) (ac1 bc1 ac2 bc2 : Nat) (w : World) (a1 : LRow w ao1 xs) (b1 : LRow w bo1 ys) (hL : Lm xs) (hM : Lm ys) (hT : TabW w) (hl1 : Lm us) (hl2 : Lm vs) (a2 : LRow w ao2 us) (b2 : LRow w bo2 vs) (hR : rtB n1 xs ys = true) (hn : rtB n2 us vs = false) :
    Calls Tryz.prog 20 #[.agg #[.bool n1, .slice ao1 xs.length ac1, .slice bo1 ys.length bc1], .agg #[.bool n2, .slice ao2 us.length ac2, .slice bo2 vs.length bc2]] w (GaveR w none 2) := by
  have hs1 : (w.alloc (.cells #[.bool n1, .slice ao1 xs.length ac1, .slice bo1 ys.length bc1] 24)).heap.size = w.heap.size + 1 := by simp
  have hs2 : ((w.alloc (.cells #[.bool n1, .slice ao1 xs.length ac1, .slice bo1 ys.length bc1] 24)).alloc (.cells #[.bool n2, .slice ao2 us.length ac2, .slice bo2 vs.length bc2] 24)).heap.size = w.heap.size + 1 + 1 := by simp
  have AB := ((B3q.new w (.bool n1) (.slice ao1 xs.length ac1) (.slice bo1 ys.length bc1) 24).alloc (.cells #[.bool n2, .slice ao2 us.length ac2, .slice bo2 vs.length bc2] 24)).alloc (.cells #[.bool false, .slice none 0 0, .slice none 0 0] 24)
  have BB := (B3q.new (w.alloc (.cells #[.bool n1, .slice ao1 xs.length ac1, .slice bo1 ys.length bc1] 24)) (.bool n2) (.slice ao2 us.length ac2) (.slice bo2 vs.length bc2) 24).alloc (.cells #[.bool false, .slice none 0 0, .slice none 0 0] 24)
  rw [hs1] at BB
  have OB := B3q.new ((w.alloc (.cells #[.bool n1, .slice ao1 xs.length ac1, .slice bo1 ys.length bc1] 24)).alloc (.cells #[.bool n2, .slice ao2 us.length ac2, .slice bo2 vs.length bc2] 24)) (.bool false) (.slice none 0 0) (.slice none 0 0) 24
  rw [hs2] at OB
  have hb0 : Below w.heap.size w (((w.alloc (.cells #[.bool n1, .slice ao1 xs.length ac1, .slice bo1 ys.length bc1] 24)).alloc (.cells #[.bool n2, .slice ao2 us.length ac2, .slice bo2 vs.length bc2] 24)).alloc (.cells #[.bool false, .slice none 0 0, .slice none 0 0] 24)) := (((Below.refl w.heap.size w).alloc (Nat.le_refl _) _).alloc (by rw [hs1]; omega) _).alloc (by rw [hs2]; omega) _
  have r1 := rright_any n1 xs ys ao1 bo1 ac1 bc1 _ (a1.below hb0) (b1.below hb0) hL hM (tabW_below hT hb0)
  have r2 := fun W (hW : Below w.heap.size w W) => rright_any n2 us vs ao2 bo2 ac2 bc2 W (a2.below hW) (b2.below hW) hl1 hl2 (tabW_below hT hW)
  rw [hR] at r1
  simp only [hn] at r2
  unfold GaveR
  clear hn hR hT hs1 hs2
  go_enter Tryz.func20, Tryz.ntmps20
  go_upto_region 1 with fail
  generalize ((w.alloc (.cells #[.bool n1, .slice ao1 xs.length ac1, .slice bo1 ys.length bc1] 24)).alloc (.cells #[.bool n2, .slice ao2 us.length ac2, .slice bo2 vs.length bc2] 24)).alloc (.cells #[.bool false, .slice none 0 0, .slice none 0 0] 24) = W0 at *
  obtain ⟨x0, x1, x2, _, _, _, _, _⟩ := id AB
  obtain ⟨y0, y1, y2, _, _, _, _, _⟩ := id BB
  obtain ⟨o0, o1, o2, q0, q1, q2, _, olt⟩ := id OB
  go_wp2_with (first
    | (go_at_call_of 11 (Value.agg #[Value.bool n1, Value.slice ao1 xs.length ac1, Value.slice bo1 ys.length bc1]); refine r1.mono ?_; rintro e w3 ⟨rfl, b3⟩; have hb3 := hb0.trans (b3.mono hb0.size); obtain ⟨z0, z1, z2, _, _, _, _, _⟩ := BB.below b3; have OB3 := OB.below b3)
    | (go_at_call_of 11 (Value.agg #[Value.bool n2, Value.slice ao2 us.length ac2, Value.slice bo2 vs.length bc2]); refine (r2 _ hb3).mono ?_; rintro e w4 ⟨rfl, b4⟩; have hb4 := hb3.trans (b4.mono hb3.size); have OB4 := OB3.below b4; obtain ⟨p0, p1, p2, s0, s1, s2, _, _⟩ := id OB4))
  exact bodyPost_ret (v := .tuple #[.agg #[.bool false, .slice none 0 0, .slice none 0 0], .int .i64 2]) (by simp [results, Tryz.results20, go_sem, p0, p1, p2]) rfl ⟨rfl, below_three hb4 (by omega) _ _ _⟩
set_option maxRecDepth 100000 in
set_option maxHeartbeats 1000000 in
theorem rsubw7_any (n1 n2 : Bool) (xs ys us vs : List Nat) (ao1 bo1 ao2 bo2 : Option Addr) (ac1 bc1 ac2 bc2 : Nat) (w : World) (a1 : LRow w ao1 xs) (b1 : LRow w bo1 ys) (hL : Lm xs) (hM : Lm ys) (hT : TabW w) (hn : rtB n1 xs ys = false) :
    Calls Tryz.prog 22 #[.agg #[.bool n1, .slice ao1 xs.length ac1, .slice bo1 ys.length bc1], .agg #[.bool n2, .slice ao2 us.length ac2, .slice bo2 vs.length bc2]] w (GaveR w none 2) := by
  have hs1 : (w.alloc (.cells #[.bool n1, .slice ao1 xs.length ac1, .slice bo1 ys.length bc1] 24)).heap.size = w.heap.size + 1 := by simp
  have hs2 : ((w.alloc (.cells #[.bool n1, .slice ao1 xs.length ac1, .slice bo1 ys.length bc1] 24)).alloc (.cells #[.bool n2, .slice ao2 us.length ac2, .slice bo2 vs.length bc2] 24)).heap.size = w.heap.size + 1 + 1 := by simp
  have AB := ((B3q.new w (.bool n1) (.slice ao1 xs.length ac1) (.slice bo1 ys.length bc1) 24).alloc (.cells #[.bool n2, .slice ao2 us.length ac2, .slice bo2 vs.length bc2] 24)).alloc (.cells #[.bool false, .slice none 0 0, .slice none 0 0] 24)
  have OB := B3q.new ((w.alloc (.cells #[.bool n1, .slice ao1 xs.length ac1, .slice bo1 ys.length bc1] 24)).alloc (.cells #[.bool n2, .slice ao2 us.length ac2, .slice bo2 vs.length bc2] 24)) (.bool false) (.slice none 0 0) (.slice none 0 0) 24
  rw [hs2] at OB
  have hb0 : Below w.heap.size w (((w.alloc (.cells #[.bool n1, .slice ao1 xs.length ac1, .slice bo1 ys.length bc1] 24)).alloc (.cells #[.bool n2, .slice ao2 us.length ac2, .slice bo2 vs.length bc2] 24)).alloc (.cells #[.bool false, .slice none 0 0, .slice none 0 0] 24)) := (((Below.refl w.heap.size w).alloc (Nat.le_refl _) _).alloc (by rw [hs1]; omega) _).alloc (by rw [hs2]; omega) _
  have r1 := rright_any n1 xs ys ao1 bo1 ac1 bc1 _ (a1.below hb0) (b1.below hb0) hL hM (tabW_below hT hb0)
  rw [hn] at r1
  unfold GaveR
  clear hn hT hs1 hs2
  go_enter Tryz.func22, Tryz.ntmps22
  go_upto_region 1 with fail
  generalize ((w.alloc (.cells #[.bool n1, .slice ao1 xs.length ac1, .slice bo1 ys.length bc1] 24)).alloc (.cells #[.bool n2, .slice ao2 us.length ac2, .slice bo2 vs.length bc2] 24)).alloc (.cells #[.bool false, .slice none 0 0, .slice none 0 0] 24) = W0 at *
  obtain ⟨x0, x1, x2, _, _, _, _, _⟩ := id AB
  obtain ⟨o0, o1, o2, q0, q1, q2, _, olt⟩ := id OB
  go_wp2_with (go_at_call 11; refine r1.mono ?_; rintro e w3 ⟨rfl, b3⟩; have hb3 := hb0.trans (b3.mono hb0.size); have OB3 := OB.below b3; obtain ⟨p0, p1, p2, s0, s1, s2, _, _⟩ := id OB3)
  exact bodyPost_ret (v := .tuple #[.agg #[.bool false, .slice none 0 0, .slice none 0 0], .int .i64 2]) (by simp [results, Tryz.results22, go_sem, p0, p1, p2]) rfl ⟨rfl, below_three hb3 (by omega) _ _ _⟩
set_option maxRecDepth 100000 in
set_option maxHeartbeats 1000000 in
theorem rsubx7_any (n1 n2 : Bool) (xs ys us vs : List Nat) (ao1 bo1 ao2 bo2 : Option Addr) (ac1 bc1 ac2 bc2 : Nat) (w : World) (a1 : LRow w ao1 xs) (b1 : LRow w bo1 ys) (hL : Lm xs) (hM : Lm ys) (hT : TabW w) (hl1 : Lm us) (hl2 : Lm vs) (a2 : LRow w ao2 us) (b2 : LRow w bo2 vs) (hR : rtB n1 xs ys = true) (hn : rtB n2 us vs = false) :
    Calls Tryz.prog 22 #[.agg #[.bool n1, .slice ao1 xs.length ac1, .slice bo1 ys.length bc1], .agg #[.bool n2, .slice ao2 us.length ac2, .slice bo2 vs.length bc2]] w (GaveR w none 2) := by
  have hs1 : (w.alloc (.cells #[.bool n1, .slice ao1 xs.length ac1, .slice bo1 ys.length bc1] 24)).heap.size = w.heap.size + 1 := by simp
  have hs2 : ((w.alloc (.cells #[.bool n1, .slice ao1 xs.length ac1, .slice bo1 ys.length bc1] 24)).alloc (.cells #[.bool n2, .slice ao2 us.length ac2, .slice bo2 vs.length bc2] 24)).heap.size = w.heap.size + 1 + 1 := by simp
  have AB := ((B3q.new w (.bool n1) (.slice ao1 xs.length ac1) (.slice bo1 ys.length bc1) 24).alloc (.cells #[.bool n2, .slice ao2 us.length ac2, .slice bo2 vs.length bc2] 24)).alloc (.cells #[.bool false, .slice none 0 0, .slice none 0 0] 24)
  have BB := (B3q.new (w.alloc (.cells #[.bool n1, .slice ao1 xs.length ac1, .slice bo1 ys.length bc1] 24)) (.bool n2) (.slice ao2 us.length ac2) (.slice bo2 vs.length bc2) 24).alloc (.cells #[.bool false, .slice none 0 0, .slice none 0 0] 24)
  rw [hs1] at BB
  have OB := B3q.new ((w.alloc (.cells #[.bool n1, .slice ao1 xs.length ac1, .slice bo1 ys.length bc1] 24)).alloc (.cells #[.bool n2, .slice ao2 us.length ac2, .slice bo2 vs.length bc2] 24)) (.bool false) (.slice none 0 0) (.slice none 0 0) 24
  rw [hs2] at OB
  have hb0 : Below w.heap.size w (((w.alloc (.cells #[.bool n1, .slice ao1 xs.length ac1, .slice bo1 ys.length bc1] 24)).alloc (.cells #[.bool n2, .slice ao2 us.length ac2, .slice bo2 vs.length bc2] 24)).alloc (.cells #[.bool false, .slice none 0 0, .slice none 0 0] 24)) := (((Below.refl w.heap.size w).alloc (Nat.le_refl _) _).alloc (by rw [hs1]; omega) _).alloc (by rw [hs2]; omega) _
  have r1 := rright_any n1 xs ys ao1 bo1 ac1 bc1 _ (a1.below hb0) (b1.below hb0) hL hM (tabW_below hT hb0)
  have r2 := fun W (hW : Below w.heap.size w W) => rright_any n2 us vs ao2 bo2 ac2 bc2 W (a2.below hW) (b2.below hW) hl1 hl2 (tabW_below hT hW)
  rw [hR] at r1
  simp only [hn] at r2
  unfold GaveR
  clear hn hR hT hs1 hs2
  go_enter Tryz.func22, Tryz.ntmps22
  go_upto_region 1 with fail
  generalize ((w.alloc (.cells #[.bool n1, .slice ao1 xs.length ac1, .slice bo1 ys.length bc1] 24)).alloc (.cells #[.bool n2, .slice ao2 us.length ac2, .slice bo2 vs.length bc2] 24)).alloc (.cells #[.bool false, .slice none 0 0, .slice none 0 0] 24) = W0 at *
  obtain ⟨x0, x1, x2, _, _, _, _, _⟩ := id AB
  obtain ⟨y0, y1, y2, _, _, _, _, _⟩ := id BB
  obtain ⟨o0, o1, o2, q0, q1, q2, _, olt⟩ := id OB
  go_wp2_with (first
    | (go_at_call_of 11 (Value.agg #[Value.bool n1, Value.slice ao1 xs.length ac1, Value.slice bo1 ys.length bc1]); refine r1.mono ?_; rintro e w3 ⟨rfl, b3⟩; have hb3 := hb0.trans (b3.mono hb0.size); obtain ⟨z0, z1, z2, _, _, _, _, _⟩ := BB.below b3; have OB3 := OB.below b3)
    | (go_at_call_of 11 (Value.agg #[Value.bool n2, Value.slice ao2 us.length ac2, Value.slice bo2 vs.length bc2]); refine (r2 _ hb3).mono ?_; rintro e w4 ⟨rfl, b4⟩; have hb4 := hb3.trans (b4.mono hb3.size); have OB4 := OB3.below b4; obtain ⟨p0, p1, p2, s0, s1, s2, _, _⟩ := id OB4))
  exact bodyPost_ret (v := .tuple #[.agg #[.bool false, .slice none 0 0, .slice none 0 0], .int .i64 2]) (by simp [results, Tryz.results22, go_sem, p0, p1, p2]) rfl ⟨rfl, below_three hb4 (by omega) _ _ _⟩
set_option maxRecDepth 100000 in
set_option maxHeartbeats 1000000 in
theorem rmulw7_any (n1 n2 : Bool) (xs ys us vs : List Nat) (ao1 bo1 ao2 bo2 : Option Addr) (ac1 bc1 ac2 bc2 : Nat) (w : World) (a1 : LRow w ao1 xs) (b1 : LRow w bo1 ys) (hL : Lm xs) (hM : Lm ys) (hT : TabW w) (hn : rtB n1 xs ys = false) :
    Calls Tryz.prog 24 #[.agg #[.bool n1, .slice ao1 xs.length ac1, .slice bo1 ys.length bc1], .agg #[.bool n2, .slice ao2 us.length ac2, .slice bo2 vs.length bc2]] w (GaveR w none 2) := by
  have hs1 : (w.alloc (.cells #[.bool n1, .slice ao1 xs.length ac1, .slice bo1 ys.length bc1] 24)).heap.size = w.heap.size + 1 := by simp
  have hs2 : ((w.alloc (.cells #[.bool n1, .slice ao1 xs.length ac1, .slice bo1 ys.length bc1] 24)).alloc (.cells #[.bool n2, .slice ao2 us.length ac2, .slice bo2 vs.length bc2] 24)).heap.size = w.heap.size + 1 + 1 := by simp
  have AB := ((B3q.new w (.bool n1) (.slice ao1 xs.length ac1) (.slice bo1 ys.length bc1) 24).alloc (.cells #[.bool n2, .slice ao2 us.length ac2, .slice bo2 vs.length bc2] 24)).alloc (.cells #[.bool false, .slice none 0 0, .slice none 0 0] 24)
  have OB := B3q.new ((w.alloc (.cells #[.bool n1, .slice ao1 xs.length ac1, .slice bo1 ys.length bc1] 24)).alloc (.cells #[.bool n2, .slice ao2 us.length ac2, .slice bo2 vs.length bc2] 24)) (.bool false) (.slice none 0 0) (.slice none 0 0) 24
  rw [hs2] at OB
  have hb0 : Below w.heap.size w (((w.alloc (.cells #[.bool n1, .slice ao1 xs.length ac1, .slice bo1 ys.length bc1] 24)).alloc (.cells #[.bool n2, .slice ao2 us.length ac2, .slice bo2 vs.length bc2] 24)).alloc (.cells #[.bool false, .slice none 0 0, .slice none 0 0] 24)) := (((Below.refl w.heap.size w).alloc (Nat.le_refl _) _).alloc (by rw [hs1]; omega) _).alloc (by rw [hs2]; omega) _
  have r1 := rright_any n1 xs ys ao1 bo1 ac1 bc1 _ (a1.below hb0) (b1.below hb0) hL hM (tabW_below hT hb0)
  rw [hn] at r1
  unfold GaveR
  clear hn hT hs1 hs2
  go_enter Tryz.func24, Tryz.ntmps24
  go_upto_region 1 with fail
  generalize ((w.alloc (.cells #[.bool n1, .slice ao1 xs.length ac1, .slice bo1 ys.length bc1] 24)).alloc (.cells #[.bool n2, .slice ao2 us.length ac2, .slice bo2 vs.length bc2] 24)).alloc (.cells #[.bool false, .slice none 0 0, .slice none 0 0] 24) = W0 at *
  obtain ⟨x0, x1, x2, _, _, _, _, _⟩ := id AB
  obtain ⟨o0, o1, o2, q0, q1, q2, _, olt⟩ := id OB
  go_wp2_with (go_at_call 11; refine r1.mono ?_; rintro e w3 ⟨rfl, b3⟩; have hb3 := hb0.trans (b3.mono hb0.size); have OB3 := OB.below b3; obtain ⟨p0, p1, p2, s0, s1, s2, _, _⟩ := id OB3)
  exact bodyPost_ret (v := .tuple #[.agg #[.bool false, .slice none 0 0, .slice none 0 0], .int .i64 2]) (by simp [results, Tryz.results24, go_sem, p0, p1, p2]) rfl ⟨rfl, below_three hb3 (by omega) _ _ _⟩
set_option maxRecDepth 100000 in
set_option maxHeartbeats 1000000 in
theorem rmulx7_any (n1 n2 : Bool) (xs ys us vs : List Nat) (ao1 bo1 ao2 bo2 : Option Addr) (ac1 bc1 ac2 bc2 : Nat) (w : World) (a1 : LRow w ao1 xs) (b1 : LRow w bo1 ys) (hL : Lm xs) (hM : Lm ys) (hT : TabW w) (hl1 : Lm us) (hl2 : Lm vs) (a2 : LRow w ao2 us) (b2 : LRow w bo2 vs) (hR : rtB n1 xs ys = true) (hn : rtB n2 us vs = false) :
    Calls Tryz.prog 24 #[.agg #[.bool n1, .slice ao1 xs.length ac1, .slice bo1 ys.length bc1], .agg #[.bool n2, .slice ao2 us.length ac2, .slice bo2 vs.length bc2]] w (GaveR w none 2) := by
  have hs1 : (w.alloc (.cells #[.bool n1, .slice ao1 xs.length ac1, .slice bo1 ys.length bc1] 24)).heap.size = w.heap.size + 1 := by simp
  have hs2 : ((w.alloc (.cells #[.bool n1, .slice ao1 xs.length ac1, .slice bo1 ys.length bc1] 24)).alloc (.cells #[.bool n2, .slice ao2 us.length ac2, .slice bo2 vs.length bc2] 24)).heap.size = w.heap.size + 1 + 1 := by simp
  have AB := ((B3q.new w (.bool n1) (.slice ao1 xs.length ac1) (.slice bo1 ys.length bc1) 24).alloc (.cells #[.bool n2, .slice ao2 us.length ac2, .slice bo2 vs.length bc2] 24)).alloc (.cells #[.bool false, .slice none 0 0, .slice none 0 0] 24)
  have BB := (B3q.new (w.alloc (.cells #[.bool n1, .slice ao1 xs.length ac1, .slice bo1 ys.length bc1] 24)) (.bool n2) (.slice ao2 us.length ac2) (.slice bo2 vs.length bc2) 24).alloc (.cells #[.bool false, .slice none 0 0, .slice none 0 0] 24)
  rw [hs1] at BB
  have OB := B3q.new ((w.alloc (.cells #[.bool n1, .slice ao1 xs.length ac1, .slice bo1 ys.length bc1] 24)).alloc (.cells #[.bool n2, .slice ao2 us.length ac2, .slice bo2 vs.length bc2] 24)) (.bool false) (.slice none 0 0) (.slice none 0 0) 24
  rw [hs2] at OB
  have hb0 : Below w.heap.size w (((w.alloc (.cells #[.bool n1, .slice ao1 xs.length ac1, .slice bo1 ys.length bc1] 24)).alloc (.cells #[.bool n2, .slice ao2 us.length ac2, .slice bo2 vs.length bc2] 24)).alloc (.cells #[.bool false, .slice none 0 0, .slice none 0 0] 24)) := (((Below.refl w.heap.size w).alloc (Nat.le_refl _) _).alloc (by rw [hs1]; omega) _).alloc (by rw [hs2]; omega) _
  have r1 := rright_any n1 xs ys ao1 bo1 ac1 bc1 _ (a1.below hb0) (b1.below hb0) hL hM (tabW_below hT hb0)
  have r2 := fun W (hW : Below w.heap.size w W) => rright_any n2 us vs ao2 bo2 ac2 bc2 W (a2.below hW) (b2.below hW) hl1 hl2 (tabW_below hT hW)
  rw [hR] at r1
  simp only [hn] at r2
  unfold GaveR
  clear hn hR hT hs1 hs2
  go_enter Tryz.func24, Tryz.ntmps24
  go_upto_region 1 with fail
  generalize ((w.alloc (.cells #[.bool n1, .slice ao1 xs.length ac1, .slice bo1 ys.length bc1] 24)).alloc (.cells #[.bool n2, .slice ao2 us.length ac2, .slice bo2 vs.length bc2] 24)).alloc (.cells #[.bool false, .slice none 0 0, .slice none 0 0] 24) = W0 at *
  obtain ⟨x0, x1, x2, _, _, _, _, _⟩ := id AB
  obtain ⟨y0, y1, y2, _, _, _, _, _⟩ := id BB
  obtain ⟨o0, o1, o2, q0, q1, q2, _, olt⟩ := id OB
  go_wp2_with (first
    | (go_at_call_of 11 (Value.agg #[Value.bool n1, Value.slice ao1 xs.length ac1, Value.slice bo1 ys.length bc1]); refine r1.mono ?_; rintro e w3 ⟨rfl, b3⟩; have hb3 := hb0.trans (b3.mono hb0.size); obtain ⟨z0, z1, z2, _, _, _, _, _⟩ := BB.below b3; have OB3 := OB.below b3)
    | (go_at_call_of 11 (Value.agg #[Value.bool n2, Value.slice ao2 us.length ac2, Value.slice bo2 vs.length bc2]); refine (r2 _ hb3).mono ?_; rintro e w4 ⟨rfl, b4⟩; have hb4 := hb3.trans (b4.mono hb3.size); have OB4 := OB3.below b4; obtain ⟨p0, p1, p2, s0, s1, s2, _, _⟩ := id OB4))
  exact bodyPost_ret (v := .tuple #[.agg #[.bool false, .slice none 0 0, .slice none 0 0], .int .i64 2]) (by simp [results, Tryz.results24, go_sem, p0, p1, p2]) rfl ⟨rfl, below_three hb4 (by omega) _ _ _⟩
set_option maxRecDepth 100000 in
set_option maxHeartbeats 1000000 in
theorem rdivw7_any (n1 n2 : Bool) (xs ys us vs : List Nat) (ao1 bo1 ao2 bo2 : Option Addr) (ac1 bc1 ac2 bc2 : Nat) (w : World) (a1 : LRow w ao1 xs) (b1 : LRow w bo1 ys) (hL : Lm xs) (hM : Lm ys) (hT : TabW w) (hn : rtB n1 xs ys = false) :
    Calls Tryz.prog 26 #[.agg #[.bool n1, .slice ao1 xs.length ac1, .slice bo1 ys.length bc1], .agg #[.bool n2, .slice ao2 us.length ac2, .slice bo2 vs.length bc2]] w (GaveR w none 2) := by
  have hs1 : (w.alloc (.cells #[.bool n1, .slice ao1 xs.length ac1, .slice bo1 ys.length bc1] 24)).heap.size = w.heap.size + 1 := by simp
  have hs2 : ((w.alloc (.cells #[.bool n1, .slice ao1 xs.length ac1, .slice bo1 ys.length bc1] 24)).alloc (.cells #[.bool n2, .slice ao2 us.length ac2, .slice bo2 vs.length bc2] 24)).heap.size = w.heap.size + 1 + 1 := by simp
  have AB := ((B3q.new w (.bool n1) (.slice ao1 xs.length ac1) (.slice bo1 ys.length bc1) 24).alloc (.cells #[.bool n2, .slice ao2 us.length ac2, .slice bo2 vs.length bc2] 24)).alloc (.cells #[.bool false, .slice none 0 0, .slice none 0 0] 24)
  have OB := B3q.new ((w.alloc (.cells #[.bool n1, .slice ao1 xs.length ac1, .slice bo1 ys.length bc1] 24)).alloc (.cells #[.bool n2, .slice ao2 us.length ac2, .slice bo2 vs.length bc2] 24)) (.bool false) (.slice none 0 0) (.slice none 0 0) 24
  rw [hs2] at OB
  have hb0 : Below w.heap.size w (((w.alloc (.cells #[.bool n1, .slice ao1 xs.length ac1, .slice bo1 ys.length bc1] 24)).alloc (.cells #[.bool n2, .slice ao2 us.length ac2, .slice bo2 vs.length bc2] 24)).alloc (.cells #[.bool false, .slice none 0 0, .slice none 0 0] 24)) := (((Below.refl w.heap.size w).alloc (Nat.le_refl _) _).alloc (by rw [hs1]; omega) _).alloc (by rw [hs2]; omega) _
  have r1 := rright_any n1 xs ys ao1 bo1 ac1 bc1 _ (a1.below hb0) (b1.below hb0) hL hM (tabW_below hT hb0)
  rw [hn] at r1
  unfold GaveR
  clear hn hT hs1 hs2
  go_enter Tryz.func26, Tryz.ntmps26
  go_upto_region 1 with fail
  generalize ((w.alloc (.cells #[.bool n1, .slice ao1 xs.length ac1, .slice bo1 ys.length bc1] 24)).alloc (.cells #[.bool n2, .slice ao2 us.length ac2, .slice bo2 vs.length bc2] 24)).alloc (.cells #[.bool false, .slice none 0 0, .slice none 0 0] 24) = W0 at *
  obtain ⟨x0, x1, x2, _, _, _, _, _⟩ := id AB
  obtain ⟨o0, o1, o2, q0, q1, q2, _, olt⟩ := id OB
  go_wp2_with (go_at_call 11; refine r1.mono ?_; rintro e w3 ⟨rfl, b3⟩; have hb3 := hb0.trans (b3.mono hb0.size); have OB3 := OB.below b3; obtain ⟨p0, p1, p2, s0, s1, s2, _, _⟩ := id OB3)
  exact bodyPost_ret (v := .tuple #[.agg #[.bool false, .slice none 0 0, .slice none 0 0], .int .i64 2]) (by simp [results, Tryz.results26, go_sem, p0, p1, p2]) rfl ⟨rfl, below_three hb3 (by omega) _ _ _⟩
set_option maxRecDepth 100000 in
set_option maxHeartbeats 1000000 in
theorem rdivx7_any (n1 n2 : Bool) (xs ys us vs : List Nat) (ao1 bo1 ao2 bo2 : Option Addr) (ac1 bc1 ac2 bc2 : Nat) (w : World) (a1 : LRow w ao1 xs) (b1 : LRow w bo1 ys) (hL : Lm xs) (hM : Lm ys) (hT : TabW w) (hl1 : Lm us) (hl2 : Lm vs) (a2 : LRow w ao2 us) (b2 : LRow w bo2 vs) (hR : rtB n1 xs ys = true) (hn : rtB n2 us vs = false) :
    Calls Tryz.prog 26 #[.agg #[.bool n1, .slice ao1 xs.length ac1, .slice bo1 ys.length bc1], .agg #[.bool n2, .slice ao2 us.length ac2, .slice bo2 vs.length bc2]] w (GaveR w none 2) := by
  have hs1 : (w.alloc (.cells #[.bool n1, .slice ao1 xs.length ac1, .slice bo1 ys.length bc1] 24)).heap.size = w.heap.size + 1 := by simp
  have hs2 : ((w.alloc (.cells #[.bool n1, .slice ao1 xs.length ac1, .slice bo1 ys.length bc1] 24)).alloc (.cells #[.bool n2, .slice ao2 us.length ac2, .slice bo2 vs.length bc2] 24)).heap.size = w.heap.size + 1 + 1 := by simp
  have AB := ((B3q.new w (.bool n1) (.slice ao1 xs.length ac1) (.slice bo1 ys.length bc1) 24).alloc (.cells #[.bool n2, .slice ao2 us.length ac2, .slice bo2 vs.length bc2] 24)).alloc (.cells #[.bool false, .slice none 0 0, .slice none 0 0] 24)
  have BB := (B3q.new (w.alloc (.cells #[.bool n1, .slice ao1 xs.length ac1, .slice bo1 ys.length bc1] 24)) (.bool n2) (.slice ao2 us.length ac2) (.slice bo2 vs.length bc2) 24).alloc (.cells #[.bool false, .slice none 0 0, .slice none 0 0] 24)
  rw [hs1] at BB
  have OB := B3q.new ((w.alloc (.cells #[.bool n1, .slice ao1 xs.length ac1, .slice bo1 ys.length bc1] 24)).alloc (.cells #[.bool n2, .slice ao2 us.length ac2, .slice bo2 vs.length bc2] 24)) (.bool false) (.slice none 0 0) (.slice none 0 0) 24
  rw [hs2] at OB
  have hb0 : Below w.heap.size w (((w.alloc (.cells #[.bool n1, .slice ao1 xs.length ac1, .slice bo1 ys.length bc1] 24)).alloc (.cells #[.bool n2, .slice ao2 us.length ac2, .slice bo2 vs.length bc2] 24)).alloc (.cells #[.bool false, .slice none 0 0, .slice none 0 0] 24)) := (((Below.refl w.heap.size w).alloc (Nat.le_refl _) _).alloc (by rw [hs1]; omega) _).alloc (by rw [hs2]; omega) _
  have r1 := rright_any n1 xs ys ao1 bo1 ac1 bc1 _ (a1.below hb0) (b1.below hb0) hL hM (tabW_below hT hb0)
  have r2 := fun W (hW : Below w.heap.size w W) => rright_any n2 us vs ao2 bo2 ac2 bc2 W (a2.below hW) (b2.below hW) hl1 hl2 (tabW_below hT hW)
  rw [hR] at r1
  simp only [hn] at r2
  unfold GaveR
  clear hn hR hT hs1 hs2
  go_enter Tryz.func26, Tryz.ntmps26
  go_upto_region 1 with fail
  generalize ((w.alloc (.cells #[.bool n1, .slice ao1 xs.length ac1, .slice bo1 ys.length bc1] 24)).alloc (.cells #[.bool n2, .slice ao2 us.length ac2, .slice bo2 vs.length bc2] 24)).alloc (.cells #[.bool false, .slice none 0 0, .slice none 0 0] 24) = W0 at *
  obtain ⟨x0, x1, x2, _, _, _, _, _⟩ := id AB
  obtain ⟨y0, y1, y2, _, _, _, _, _⟩ := id BB
  obtain ⟨o0, o1, o2, q0, q1, q2, _, olt⟩ := id OB
  go_wp2_with (first
    | (go_at_call_of 11 (Value.agg #[Value.bool n1, Value.slice ao1 xs.length ac1, Value.slice bo1 ys.length bc1]); refine r1.mono ?_; rintro e w3 ⟨rfl, b3⟩; have hb3 := hb0.trans (b3.mono hb0.size); obtain ⟨z0, z1, z2, _, _, _, _, _⟩ := BB.below b3; have OB3 := OB.below b3)
    | (go_at_call_of 11 (Value.agg #[Value.bool n2, Value.slice ao2 us.length ac2, Value.slice bo2 vs.length bc2]); refine (r2 _ hb3).mono ?_; rintro e w4 ⟨rfl, b4⟩; have hb4 := hb3.trans (b4.mono hb3.size); have OB4 := OB3.below b4; obtain ⟨p0, p1, p2, s0, s1, s2, _, _⟩ := id OB4))
  exact bodyPost_ret (v := .tuple #[.agg #[.bool false, .slice none 0 0, .slice none 0 0], .int .i64 2]) (by simp [results, Tryz.results26, go_sem, p0, p1, p2]) rfl ⟨rfl, below_three hb4 (by omega) _ _ _⟩
set_option maxRecDepth 100000 in
set_option maxHeartbeats 1000000 in
theorem rcmpw7_any (n1 n2 : Bool) (xs ys us vs : List Nat) (ao1 bo1 ao2 bo2 : Option Addr) (ac1 bc1 ac2 bc2 : Nat) (w : World) (a1 : LRow w ao1 xs) (b1 : LRow w bo1 ys) (hL : Lm xs) (hM : Lm ys) (hT : TabW w) (hn : rtB n1 xs ys = false) :
    Calls Tryz.prog 28 #[.agg #[.bool n1, .slice ao1 xs.length ac1, .slice bo1 ys.length bc1], .agg #[.bool n2, .slice ao2 us.length ac2, .slice bo2 vs.length bc2]] w fun e w' => e = .returned (.tuple #[.int .i64 0, .int .i64 2]) ∧ Below w.heap.size w w' := by
  have hs1 : (w.alloc (.cells #[.bool n1, .slice ao1 xs.length ac1, .slice bo1 ys.length bc1] 24)).heap.size = w.heap.size + 1 := by simp
  have hs2 : ((w.alloc (.cells #[.bool n1, .slice ao1 xs.length ac1, .slice bo1 ys.length bc1] 24)).alloc (.cells #[.bool n2, .slice ao2 us.length ac2, .slice bo2 vs.length bc2] 24)).heap.size = w.heap.size + 1 + 1 := by simp
  have AB := (B3q.new w (.bool n1) (.slice ao1 xs.length ac1) (.slice bo1 ys.length bc1) 24).alloc (.cells #[.bool n2, .slice ao2 us.length ac2, .slice bo2 vs.length bc2] 24)
  have hb0 : Below w.heap.size w ((w.alloc (.cells #[.bool n1, .slice ao1 xs.length ac1, .slice bo1 ys.length bc1] 24)).alloc (.cells #[.bool n2, .slice ao2 us.length ac2, .slice bo2 vs.length bc2] 24)) := ((Below.refl w.heap.size w).alloc (Nat.le_refl _) _).alloc (by rw [hs1]; omega) _
  have r1 := rright_any n1 xs ys ao1 bo1 ac1 bc1 _ (a1.below hb0) (b1.below hb0) hL hM (tabW_below hT hb0)
  rw [hn] at r1
  clear hn hT hs1 hs2
  go_enter Tryz.func28, Tryz.ntmps28
  go_upto_region 1 with fail
  generalize (w.alloc (.cells #[.bool n1, .slice ao1 xs.length ac1, .slice bo1 ys.length bc1] 24)).alloc (.cells #[.bool n2, .slice ao2 us.length ac2, .slice bo2 vs.length bc2] 24) = W0 at *
  obtain ⟨x0, x1, x2, _, _, _, _, _⟩ := id AB
  go_wp2_with (go_at_call 11; refine r1.mono ?_; rintro e w3 ⟨rfl, b3⟩; have hb3 := hb0.trans (b3.mono hb0.size))
  exact bodyPost_ret (v := .tuple #[.int .i64 0, .int .i64 2]) (by simp [results, Tryz.results28, go_sem]) rfl ⟨rfl, hb3⟩
set_option maxRecDepth 100000 in
set_option maxHeartbeats 1000000 in
theorem rcmpx7_any (n1 n2 : Bool) (xs ys us vs : List Nat) (ao1 bo1 ao2 bo2 : Option Addr) (ac1 bc1 ac2 bc2 : Nat) (w : World) (a1 : LRow w ao1 xs) (b1 : LRow w bo1 ys) (hL : Lm xs) (hM : Lm ys) (hT : TabW w) (hl1 : Lm us) (hl2 : Lm vs) (a2 : LRow w ao2 us) (b2 : LRow w bo2 vs) (hR : rtB n1 xs ys = true) (hn : rtB n2 us vs = false) :
    Calls Tryz.prog 28 #[.agg #[.bool n1, .slice ao1 xs.length ac1, .slice bo1 ys.length bc1], .agg #[.bool n2, .slice ao2 us.length ac2, .slice bo2 vs.length bc2]] w fun e w' => e = .returned (.tuple #[.int .i64 0, .int .i64 2]) ∧ Below w.heap.size w w' := by
  have hs1 : (w.alloc (.cells #[.bool n1, .slice ao1 xs.length ac1, .slice bo1 ys.length bc1] 24)).heap.size = w.heap.size + 1 := by simp
  have hs2 : ((w.alloc (.cells #[.bool n1, .slice ao1 xs.length ac1, .slice bo1 ys.length bc1] 24)).alloc (.cells #[.bool n2, .slice ao2 us.length ac2, .slice bo2 vs.length bc2] 24)).heap.size = w.heap.size + 1 + 1 := by simp
  have AB := (B3q.new w (.bool n1) (.slice ao1 xs.length ac1) (.slice bo1 ys.length bc1) 24).alloc (.cells #[.bool n2, .slice ao2 us.length ac2, .slice bo2 vs.length bc2] 24)
  have BB := B3q.new (w.alloc (.cells #[.bool n1, .slice ao1 xs.length ac1, .slice bo1 ys.length bc1] 24)) (.bool n2) (.slice ao2 us.length ac2) (.slice bo2 vs.length bc2) 24
  rw [hs1] at BB
  have hb0 : Below w.heap.size w ((w.alloc (.cells #[.bool n1, .slice ao1 xs.length ac1, .slice bo1 ys.length bc1] 24)).alloc (.cells #[.bool n2, .slice ao2 us.length ac2, .slice bo2 vs.length bc2] 24)) := ((Below.refl w.heap.size w).alloc (Nat.le_refl _) _).alloc (by rw [hs1]; omega) _
  have r1 := rright_any n1 xs ys ao1 bo1 ac1 bc1 _ (a1.below hb0) (b1.below hb0) hL hM (tabW_below hT hb0)
  have r2 := fun W (hW : Below w.heap.size w W) => rright_any n2 us vs ao2 bo2 ac2 bc2 W (a2.below hW) (b2.below hW) hl1 hl2 (tabW_below hT hW)
  rw [hR] at r1
  simp only [hn] at r2
  clear hn hR hT hs1 hs2
  go_enter Tryz.func28, Tryz.ntmps28
  go_upto_region 1 with fail
  generalize (w.alloc (.cells #[.bool n1, .slice ao1 xs.length ac1, .slice bo1 ys.length bc1] 24)).alloc (.cells #[.bool n2, .slice ao2 us.length ac2, .slice bo2 vs.length bc2] 24) = W0 at *
  obtain ⟨x0, x1, x2, _, _, _, _, _⟩ := id AB
  obtain ⟨y0, y1, y2, _, _, _, _, _⟩ := id BB
  go_wp2_with (first
    | (go_at_call_of 11 (Value.agg #[Value.bool n1, Value.slice ao1 xs.length ac1, Value.slice bo1 ys.length bc1]); refine r1.mono ?_; rintro e w3 ⟨rfl, b3⟩; have hb3 := hb0.trans (b3.mono hb0.size); obtain ⟨z0, z1, z2, _, _, _, _, _⟩ := BB.below b3)
    | (go_at_call_of 11 (Value.agg #[Value.bool n2, Value.slice ao2 us.length ac2, Value.slice bo2 vs.length bc2]); refine (r2 _ hb3).mono ?_; rintro e w4 ⟨rfl, b4⟩; have hb4 := hb3.trans (b4.mono hb3.size)))
  exact bodyPost_ret (v := .tuple #[.int .i64 0, .int .i64 2]) (by simp [results, Tryz.results28, go_sem]) rfl ⟨rfl, hb4⟩
end Go.Proofs.YtnclddfljghebaaGreatDoor
