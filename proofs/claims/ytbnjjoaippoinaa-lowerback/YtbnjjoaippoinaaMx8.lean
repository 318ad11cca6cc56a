/- What the law's laid answers (as the numbers are): a matrix out of a list, round and round. -/
import Derived.Test.YtbnjjoaippoinaaMx7
import Derived.Test.YtbnjjoaippoinaaA1
namespace Go.Proofs.Ytbnjjoaippoinaa
open Go.RowKit

/-- A number brought below 7. -/
def pk7 (x : Int) : Nat := (if x.tmod 7 < 0 then x.tmod 7 + 7 else x.tmod 7).toNat
theorem tmod7 (x : Int) : -7 < x.tmod 7 ∧ x.tmod 7 < 7 := by
  have b1 : x.tmod 7 < 7 := Int.tmod_lt_of_pos x (by omega)
  have b2 := Int.tmod_lt_of_pos (-x) (show (0 : Int) < 7 by omega)
  rw [Int.neg_tmod] at b2
  omega
theorem pk7_le (x : Int) : pk7 x ≤ 6 := by
  have := tmod7 x
  unfold pk7
  split <;> omega
set_option maxHeartbeats 400000 in
theorem pick7 (x : Int) (w : World) : Calls Try.prog 24 #[.int .i64 x, .int .i64 7] w fun e w' => e = .returned (.int .i64 (pk7 x : Nat)) ∧ w' = w := by
  have b := tmod7 x
  by_cases h : x.tmod 7 < 0
  · have HP : Hid (((pk7 x : Nat) : Int) = x.tmod 7 + 7) := (show _ = _ by unfold pk7; rw [if_pos h]; omega)
    generalize hy : x.tmod 7 = y at *
    generalize pk7 x = p at *
    have b1 := b.1
    clear b
    go_enter Try.func24, Try.ntmps24
    go_wp2
    go_ret
    exact ⟨end_int HP.out.symm, rfl⟩
  · have HP : Hid (((pk7 x : Nat) : Int) = x.tmod 7) := (show _ = _ by unfold pk7; rw [if_neg h]; omega)
    generalize hy : x.tmod 7 = y at *
    generalize pk7 x = p at *
    have b1 := b.2
    clear b
    go_enter Try.func24, Try.ntmps24
    go_wp2
    go_ret
    exact ⟨end_int HP.out.symm, rfl⟩
/-- The number at place k, round and round. -/
def rndA (l : List Nat) (k : Nat) : Nat := if l.length = 0 then 4607182418800017408 else l.getD (k % l.length) 0
def rndL (l : List Nat) (n : Nat) : List Nat := (List.range n).map (rndA l)
theorem rndL_len (l : List Nat) (n : Nat) : (rndL l n).length = n := by simp [rndL]
theorem rndL_succ (l : List Nat) (n : Nat) : rndL l (n + 1) = rndL l n ++ [rndA l n] := by simp [rndL, List.range_succ]
theorem rndA_lt {l : List Nat} (h : FW l) (k : Nat) : rndA l k < 18446744073709551616 := by
  unfold rndA
  split
  · omega
  · exact h.at (Nat.mod_lt _ (by omega))
theorem rndL_fw {l : List Nat} (h : FW l) (n : Nat) : FW (rndL l n) := fun x hx => by
  obtain ⟨k, _, rfl⟩ := List.mem_map.1 hx
  exact rndA_lt h k
theorem rndL_at {l : List Nat} {n k : Nat} (h : k < n) : (rndL l n).getD k 0 = rndA l k := by simp [rndL, List.getD_eq_getElem?_getD, h]
theorem B3.past {w w1 : World} {b B : Nat} {x y z : Value} (h : B3 w b x y z) (hb : Below B w w1) (hB : b < B) : B3 w1 b x y z := by
  obtain ⟨h0, h1, h2, g0, g1, g2, h5⟩ := h
  exact ⟨by rw [hb.cell (p := ⟨b, 0, none⟩) hB]; exact h0, by rw [hb.cell (p := ⟨b, 1, none⟩) hB]; exact h1, by rw [hb.cell (p := ⟨b, 2, none⟩) hB]; exact h2, by rw [hb.frozen (p := ⟨b, 0, none⟩) hB]; exact g0, by rw [hb.frozen (p := ⟨b, 1, none⟩) hB]; exact g1, by rw [hb.frozen (p := ⟨b, 2, none⟩) hB]; exact g2, Nat.lt_of_lt_of_le h5 hb.size⟩
theorem B3.put2 {w : World} {b : Nat} {x y z : Value} (h : B3 w b x y z) (v : Value) : B3 (w.setCell ⟨b, 2, none⟩ v) b x y v := by
  obtain ⟨h0, h1, h2, g0, g1, g2, h5⟩ := h
  refine ⟨(World.cell?_setCell_other _ _ _ v (by simp)).trans h0, (World.cell?_setCell_other _ _ _ v (by simp)).trans h1, World.cell?_setCell_same _ _ v h2, ?_, ?_, ?_, ?_⟩
  · simp [go_sem, g0]
  · simp [go_sem, g1]
  · simp [go_sem, g2]
  · simp [go_sem]; exact h5
/-- What stands in memory while a matrix is laid. -/
structure LaidS (w wr : World) (R C M B k : Nat) (v : Value) (xs : List Nat) : Prop where
  res : B3 wr w.heap.size (.int .i64 0) (.int .i64 0) (.slice none 0 0)
  mbox : B3 wr M (.int .i64 R) (.int .i64 C) v
  own : wr.ownsRow B 38 1 v k (fv xs)
  lo : w.heap.size < B ∧ M < B ∧ B ≤ wr.heap.size ∧ w.heap.size < M
  below : Below w.heap.size w wr
theorem LaidS.next {w wr w1 : World} {R C M B k r : Nat} {v v' : Value} {xs : List Nat} (h : LaidS w wr R C M B k v xs) (o : Obj) (hown : w1.ownsRow B 38 1 v' (k + 1) (fv xs ++ [.float .f64 r])) (hg : (wr.alloc o).grownBy w1 v.ownBlock) :
    B3 w1 M (.int .i64 R) (.int .i64 C) v ∧ LaidS w (w1.setCell ⟨M, 2, none⟩ v') R C M B (k + 1) v' (xs ++ [r]) := by
  have hb : Below B wr w1 := ((Below.refl B wr).alloc h.lo.2.2.1 o).grown hg (by have := h.lo.2.2.1; simp; omega) (fun k hk => (h.own.lt k hk).1)
  have hM := h.mbox.past hb h.lo.2.1
  refine ⟨hM, (h.res.past hb h.lo.1).far (by have := h.lo.2.2.2; omega) _, hM.put2 _, ?_, ⟨h.lo.1, h.lo.2.1, ?_, h.lo.2.2.2⟩, ?_⟩
  · rw [fv_snoc]
    exact ownsRow_setCell_below hown (a := ⟨M, 2, none⟩) h.lo.2.1 _
  · have := hb.size; have := h.lo.2.2.1; simp [World.setCell]; omega
  · exact (h.below.trans (hb.mono (Nat.le_of_lt h.lo.1))).setCell (Nat.le_of_lt h.lo.2.2.2) _
end Go.Proofs.Ytbnjjoaippoinaa
