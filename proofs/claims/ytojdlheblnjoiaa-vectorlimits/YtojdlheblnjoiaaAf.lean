/- The closures of Add, Sub, Axpy and Scale; what filled and together make of them. -/
import Derived.Test.YtojdlheblnjoiaaAe
namespace Go.Proofs.Ytojdlheblnjoiaa
open Go.RowKit

/-- A float is stored. -/
theorem vstoref (P : Program) (a : Addr) (k : FloatKind) (b : Nat) (m : Mode) (w : World) : (store a (.float k b) m).run P w = stored P w a (.float k b) m := run_store P w a _ m rfl
theorem opS : FourOp .sub := Or.inr (Or.inl rfl)
theorem opMu : FourOp .mul := Or.inr (Or.inr (Or.inl rfl))
/-- At each place. -/
def adO (xs ys : List Nat) (k : Nat) : Option Nat := opO .add (toO (xs.getD k 0)) (toO (ys.getD k 0))
def sbO (xs ys : List Nat) (k : Nat) : Option Nat := opO .sub (toO (xs.getD k 0)) (toO (ys.getD k 0))
def scO (t : Nat) (xs : List Nat) (k : Nat) : Option Nat := opO .mul (toO t) (toO (xs.getD k 0))
def axO (t : Nat) (xs ys : List Nat) (k : Nat) : Option Nat := opO .add (opO .mul (toO t) (toO (xs.getD k 0))) (toO (ys.getD k 0))
set_option maxHeartbeats 400000 in
theorem add1_any (n : Nat) (b off cap b2 off2 cap2 A B k x y : Nat) (w : World) (hx : x < 18446744073709551616) (hy : y < 18446744073709551616) (hc : w.cell? ⟨b, off + k, none⟩ = some (.float .f64 x)) (hd : w.cell? ⟨b2, off2 + k, none⟩ = some (.float .f64 y)) (hk : k < n) (hA : w.cell? ⟨A, 0, none⟩ = some (.slice (some ⟨b, off, none⟩) n cap)) (hB : w.cell? ⟨B, 0, none⟩ = some (.slice (some ⟨b2, off2, none⟩) n cap2)) :
    Calls Try.prog 34 #[.int .i64 k, .pointer (some ⟨A, 0, none⟩), .pointer (some ⟨B, 0, none⟩)] w fun e w' => ∃ r, e = .returned (.float .f64 r) ∧ NR (opO .add (toO x) (toO y)) r ∧ Below w.heap.size w w' := by
  have HN : Hid (∀ W, NR (opO .add (toO x) (toO y)) (opR .add x y W)) := fun W => opO_NR (Or.inl rfl) (toO_NR hx) (toO_NR hy) W
  have HB := (Below.refl w.heap.size w).drew
  have h1 := fun x y w => run_op4 (P := Try.prog) (op := .add) (Or.inl rfl) 22 x y w
  have hcv := conv64
  have i1 : (k : Int) < (n : Int) := by omega
  go_enter Try.func34, Try.ntmps34
  go_wp2
  go_region_with (fail)
  all_goals
    go_wp2
    go_ret
    exact ⟨_, rfl, HN.out _, opW_below .add x y HB⟩
theorem add1_all (xs ys : List Nat) (ao bo : Option Addr) (cap cap2 A B : Nat) (w : World) (hr : GRow w ao xs) (hs : GRow w bo ys) (hF : FW xs) (hG : FW ys) (hl : ys.length = xs.length) (hA : w.cell? ⟨A, 0, none⟩ = some (.slice ao xs.length cap)) (hB : w.cell? ⟨B, 0, none⟩ = some (.slice bo ys.length cap2)) (i : Nat) (wr : World) (hi : i < xs.length) (hb : Below w.heap.size w wr) :
    Calls Try.prog 34 #[.int .i64 i, .pointer (some ⟨A, 0, none⟩), .pointer (some ⟨B, 0, none⟩)] wr fun e w' => ∃ r, e = .returned (.float .f64 r) ∧ NR (adO xs ys i) r ∧ Below wr.heap.size wr w' := by
  have hAw : wr.cell? ⟨A, 0, none⟩ = some (.slice ao xs.length cap) := by rw [hb.cell (World.block_lt_of_cell? w _ hA)]; exact hA
  have hBw : wr.cell? ⟨B, 0, none⟩ = some (.slice bo xs.length cap2) := by rw [hb.cell (World.block_lt_of_cell? w _ hB), ← hl]; exact hB
  rcases hr.below hb with h | ⟨b, off, rfl, hc⟩
  · omega
  rcases hs.below hb with h | ⟨b2, off2, rfl, hd⟩
  · omega
  exact add1_any xs.length b off cap b2 off2 cap2 A B i _ _ wr (hF.at hi) (hG.at (by omega)) (hc i hi) (hd i (by omega)) hi hAw hBw
set_option maxHeartbeats 400000 in
theorem sub1_any (n : Nat) (b off cap b2 off2 cap2 A B k x y : Nat) (w : World) (hx : x < 18446744073709551616) (hy : y < 18446744073709551616) (hc : w.cell? ⟨b, off + k, none⟩ = some (.float .f64 x)) (hd : w.cell? ⟨b2, off2 + k, none⟩ = some (.float .f64 y)) (hk : k < n) (hA : w.cell? ⟨A, 0, none⟩ = some (.slice (some ⟨b, off, none⟩) n cap)) (hB : w.cell? ⟨B, 0, none⟩ = some (.slice (some ⟨b2, off2, none⟩) n cap2)) :
    Calls Try.prog 35 #[.int .i64 k, .pointer (some ⟨A, 0, none⟩), .pointer (some ⟨B, 0, none⟩)] w fun e w' => ∃ r, e = .returned (.float .f64 r) ∧ NR (opO .sub (toO x) (toO y)) r ∧ Below w.heap.size w w' := by
  have HN : Hid (∀ W, NR (opO .sub (toO x) (toO y)) (opR .sub x y W)) := fun W => opO_NR opS (toO_NR hx) (toO_NR hy) W
  have HB := (Below.refl w.heap.size w).drew
  have h1 := fun x y w => run_op4 (P := Try.prog) (op := .sub) opS 22 x y w
  have hcv := conv64
  have i1 : (k : Int) < (n : Int) := by omega
  go_enter Try.func35, Try.ntmps35
  go_wp2
  go_region_with (fail)
  all_goals
    go_wp2
    go_ret
    exact ⟨_, rfl, HN.out _, opW_below .sub x y HB⟩
theorem sub1_all (xs ys : List Nat) (ao bo : Option Addr) (cap cap2 A B : Nat) (w : World) (hr : GRow w ao xs) (hs : GRow w bo ys) (hF : FW xs) (hG : FW ys) (hl : ys.length = xs.length) (hA : w.cell? ⟨A, 0, none⟩ = some (.slice ao xs.length cap)) (hB : w.cell? ⟨B, 0, none⟩ = some (.slice bo ys.length cap2)) (i : Nat) (wr : World) (hi : i < xs.length) (hb : Below w.heap.size w wr) :
    Calls Try.prog 35 #[.int .i64 i, .pointer (some ⟨A, 0, none⟩), .pointer (some ⟨B, 0, none⟩)] wr fun e w' => ∃ r, e = .returned (.float .f64 r) ∧ NR (sbO xs ys i) r ∧ Below wr.heap.size wr w' := by
  have hAw : wr.cell? ⟨A, 0, none⟩ = some (.slice ao xs.length cap) := by rw [hb.cell (World.block_lt_of_cell? w _ hA)]; exact hA
  have hBw : wr.cell? ⟨B, 0, none⟩ = some (.slice bo xs.length cap2) := by rw [hb.cell (World.block_lt_of_cell? w _ hB), ← hl]; exact hB
  rcases hr.below hb with h | ⟨b, off, rfl, hc⟩
  · omega
  rcases hs.below hb with h | ⟨b2, off2, rfl, hd⟩
  · omega
  exact sub1_any xs.length b off cap b2 off2 cap2 A B i _ _ wr (hF.at hi) (hG.at (by omega)) (hc i hi) (hd i (by omega)) hi hAw hBw
set_option maxHeartbeats 1000000 in
theorem axpy1_any (n : Nat) (t b off cap b2 off2 cap2 T A B k x y : Nat) (w : World) (ht : t < 18446744073709551616) (hx : x < 18446744073709551616) (hy : y < 18446744073709551616) (hc : w.cell? ⟨b, off + k, none⟩ = some (.float .f64 x)) (hd : w.cell? ⟨b2, off2 + k, none⟩ = some (.float .f64 y)) (hk : k < n) (hT : w.cell? ⟨T, 0, none⟩ = some (.float .f64 t)) (hA : w.cell? ⟨A, 0, none⟩ = some (.slice (some ⟨b, off, none⟩) n cap)) (hB : w.cell? ⟨B, 0, none⟩ = some (.slice (some ⟨b2, off2, none⟩) n cap2)) :
    Calls Try.prog 37 #[.int .i64 k, .pointer (some ⟨T, 0, none⟩), .pointer (some ⟨A, 0, none⟩), .pointer (some ⟨B, 0, none⟩)] w fun e w' => ∃ r, e = .returned (.float .f64 r) ∧ NR (opO .add (opO .mul (toO t) (toO x)) (toO y)) r ∧ Below w.heap.size w w' := by
  have HN : Hid (∀ W W', NR (opO .add (opO .mul (toO t) (toO x)) (toO y)) (opR .add (opR .mul t x W) y W')) := fun W W' => opO_NR (Or.inl rfl) (opO_NR opMu (toO_NR ht) (toO_NR hx) W) (toO_NR hy) W'
  have HB := (Below.refl w.heap.size w).drew
  have HT : ∀ op p q, (opW op p q w.drew).cell? ⟨T, 0, none⟩ = some (.float .f64 t) := fun op p q => by unfold World.cell?; rw [opW_heap]; exact hT
  have HA : ∀ op p q, (opW op p q w.drew).cell? ⟨A, 0, none⟩ = some (.slice (some ⟨b, off, none⟩) n cap) := fun op p q => by unfold World.cell?; rw [opW_heap]; exact hA
  have HB2 : ∀ op p q, (opW op p q w.drew).cell? ⟨B, 0, none⟩ = some (.slice (some ⟨b2, off2, none⟩) n cap2) := fun op p q => by unfold World.cell?; rw [opW_heap]; exact hB
  have HX : ∀ op p q, (opW op p q w.drew).cell? ⟨b, off + k, none⟩ = some (.float .f64 x) := fun op p q => by unfold World.cell?; rw [opW_heap]; exact hc
  have HY : ∀ op p q, (opW op p q w.drew).cell? ⟨b2, off2 + k, none⟩ = some (.float .f64 y) := fun op p q => by unfold World.cell?; rw [opW_heap]; exact hd
  have h1 := fun x y w => run_op4 (P := Try.prog) (op := .add) (Or.inl rfl) 22 x y w
  have h2 := fun x y w => run_op4 (P := Try.prog) (op := .mul) opMu 22 x y w
  have hcv := conv64
  have i1 : (k : Int) < (n : Int) := by omega
  go_enter Try.func37, Try.ntmps37
  go_wp2
  go_region_with (fail)
  all_goals
    go_wp2
    go_ret
    exact ⟨_, rfl, HN.out _ _, opW_below .add _ y (opW_below .mul t x HB)⟩
theorem axpy1_all (t : Nat) (xs ys : List Nat) (ao bo : Option Addr) (cap cap2 T A B : Nat) (w : World) (ht : t < 18446744073709551616) (hr : GRow w ao xs) (hs : GRow w bo ys) (hF : FW xs) (hG : FW ys) (hl : ys.length = xs.length) (hT : w.cell? ⟨T, 0, none⟩ = some (.float .f64 t)) (hA : w.cell? ⟨A, 0, none⟩ = some (.slice ao xs.length cap)) (hB : w.cell? ⟨B, 0, none⟩ = some (.slice bo ys.length cap2)) (i : Nat) (wr : World) (hi : i < xs.length) (hb : Below w.heap.size w wr) :
    Calls Try.prog 37 #[.int .i64 i, .pointer (some ⟨T, 0, none⟩), .pointer (some ⟨A, 0, none⟩), .pointer (some ⟨B, 0, none⟩)] wr fun e w' => ∃ r, e = .returned (.float .f64 r) ∧ NR (axO t xs ys i) r ∧ Below wr.heap.size wr w' := by
  have hTw : wr.cell? ⟨T, 0, none⟩ = some (.float .f64 t) := by rw [hb.cell (World.block_lt_of_cell? w _ hT)]; exact hT
  have hAw : wr.cell? ⟨A, 0, none⟩ = some (.slice ao xs.length cap) := by rw [hb.cell (World.block_lt_of_cell? w _ hA)]; exact hA
  have hBw : wr.cell? ⟨B, 0, none⟩ = some (.slice bo xs.length cap2) := by rw [hb.cell (World.block_lt_of_cell? w _ hB), ← hl]; exact hB
  rcases hr.below hb with h | ⟨b, off, rfl, hc⟩
  · omega
  rcases hs.below hb with h | ⟨b2, off2, rfl, hd⟩
  · omega
  exact axpy1_any xs.length t b off cap b2 off2 cap2 T A B i _ _ wr ht (hF.at hi) (hG.at (by omega)) (hc i hi) (hd i (by omega)) hi hTw hAw hBw
set_option maxHeartbeats 400000 in
theorem scale1_any (n : Nat) (t b off cap T A k x : Nat) (w : World) (ht : t < 18446744073709551616) (hx : x < 18446744073709551616) (hc : w.cell? ⟨b, off + k, none⟩ = some (.float .f64 x)) (hk : k < n) (hT : w.cell? ⟨T, 0, none⟩ = some (.float .f64 t)) (hA : w.cell? ⟨A, 0, none⟩ = some (.slice (some ⟨b, off, none⟩) n cap)) :
    Calls Try.prog 41 #[.int .i64 k, .pointer (some ⟨T, 0, none⟩), .pointer (some ⟨A, 0, none⟩)] w fun e w' => ∃ r, e = .returned (.float .f64 r) ∧ NR (opO .mul (toO t) (toO x)) r ∧ Below w.heap.size w w' := by
  have HN : Hid (∀ W, NR (opO .mul (toO t) (toO x)) (opR .mul t x W)) := fun W => opO_NR opMu (toO_NR ht) (toO_NR hx) W
  have HB := (Below.refl w.heap.size w).drew
  have h1 := fun x y w => run_op4 (P := Try.prog) (op := .mul) opMu 22 x y w
  have hcv := conv64
  have i1 : (k : Int) < (n : Int) := by omega
  go_enter Try.func41, Try.ntmps41
  go_wp2
  go_region_with (fail)
  all_goals
    go_wp2
    go_ret
    exact ⟨_, rfl, HN.out _, opW_below .mul t x HB⟩
theorem scale1_all (t : Nat) (xs : List Nat) (ao : Option Addr) (cap T A : Nat) (w : World) (ht : t < 18446744073709551616) (hr : GRow w ao xs) (hF : FW xs) (hT : w.cell? ⟨T, 0, none⟩ = some (.float .f64 t)) (hA : w.cell? ⟨A, 0, none⟩ = some (.slice ao xs.length cap)) (i : Nat) (wr : World) (hi : i < xs.length) (hb : Below w.heap.size w wr) :
    Calls Try.prog 41 #[.int .i64 i, .pointer (some ⟨T, 0, none⟩), .pointer (some ⟨A, 0, none⟩)] wr fun e w' => ∃ r, e = .returned (.float .f64 r) ∧ NR (scO t xs i) r ∧ Below wr.heap.size wr w' := by
  have hTw : wr.cell? ⟨T, 0, none⟩ = some (.float .f64 t) := by rw [hb.cell (World.block_lt_of_cell? w _ hT)]; exact hT
  have hAw : wr.cell? ⟨A, 0, none⟩ = some (.slice ao xs.length cap) := by rw [hb.cell (World.block_lt_of_cell? w _ hA)]; exact hA
  rcases hr.below hb with h | ⟨b, off, rfl, hc⟩
  · omega
  exact scale1_any xs.length t b off cap T A i _ wr ht (hF.at hi) (hc i hi) hi hTw hAw
set_option maxHeartbeats 1000000 in
theorem filled_add (o : Nat → Option Nat) (n A B : Nat) (w : World) (hn : n ≤ 17592186044416) (hcl : ∀ (i : Nat) (wr : World), i < n → Below w.heap.size w wr → Calls Try.prog 34 #[.int .i64 i, .pointer (some ⟨A, 0, none⟩), .pointer (some ⟨B, 0, none⟩)] wr fun e w' => ∃ r, e = .returned (.float .f64 r) ∧ NR (o i) r ∧ Below wr.heap.size wr w') :
    Calls Try.prog 40 #[.int .i64 n, .func (.func 34) #[] #[.pointer (some ⟨A, 0, none⟩), .pointer (some ⟨B, 0, none⟩)]] w fun e w' => ∃ v, e = .returned v ∧ GaveF w (tab n o) v w' := by
  have hmk := run_make_row' (P := Try.prog) 23 22 (.float .f64 0) 8 Try.underlying23 Try.infoF rfl .i64 .i64 n (by omega) (by omega)
  have hmade := RRow.made w n
  have hbm : Below w.heap.size w (w.alloc (.cells (madeCells #[.float .f64 0] n) 22)) := (Below.refl _ _).alloc (Nat.le_refl _) _
  have hsz : w.heap.size < (w.alloc (.cells (madeCells #[.float .f64 0] n) 22)).heap.size := by simp
  go_enter Try.func40, Try.ntmps40
  go_wp2
  clear hmk
  go_loopg [6, 10] n (fun g _ i wr => ∃ (k : Nat) (f : Nat → Nat), k ≤ n ∧ g = n - k ∧ i = .int .i64 k ∧ Hid (∀ j, j < k → NR (o j) (f j)) ∧ Hid (RRow wr w.heap.size n (fun j => if j < k then f j else 0)) ∧ Hid (w.heap.size < wr.heap.size) ∧ Hid (Below w.heap.size w wr))
  case atStart => exact ⟨0, fun _ => 0, Nat.zero_le _, rfl, rfl, fun j hj => by omega, hmade.congr (fun j hj => by simp), hsz, hbm⟩
  case round =>
    obtain ⟨k, f, hk, hg, rfl, hN, hrow, hsz', hB⟩ := hrel
    have HG : Hid (gk = n - k) := hg
    clear hg hmade hbm hsz
    by_cases hlt : k < n
    · have cc := hcl k wr hlt hB.out
      have hst := vstoref Try.prog
      have i1 : (k : Int) < (n : Int) := by omega
      go_wp2_with (go_at_call 34; refine cc.mono ?_; rintro e w1 ⟨r, rfl, hr, b1⟩; have row1 := hrow.out.below b1 hsz'.out; have g2 := World.rowIs.cell row1 hlt; have g3 := World.rowIs.frozen row1 k)
      have hs := row1.set k r
      have hB1 : Below w.heap.size w (w1.setCell ⟨w.heap.size, k, none⟩ (.float .f64 r)) := (hB.out.trans (b1.mono hB.out.size)).setCell (Nat.le_refl _) _
      have hz : w.heap.size < (w1.setCell ⟨w.heap.size, k, none⟩ (.float .f64 r)).heap.size := by have := b1.size; have := hsz'.out; simp; omega
      go_roundg (n - (k + 1))
      case measure => rw [HG.out]; omega
      case rel =>
        refine ⟨k + 1, fun j => if j = k then r else f j, by omega, rfl, by go_num, fun j hj => ?_, hs.congr (fun j hj => ?_), hz, hB1⟩
        · by_cases e : j = k
          · subst e; simpa using hr
          · simp only [e, if_false]; exact hN.out j (by omega)
        · by_cases e : j = k
          · subst e; simp
          · simp only [e, if_false]
            by_cases e2 : j < k
            · rw [if_pos e2, if_pos (by omega)]
            · rw [if_neg e2, if_neg (by omega)]
    · have ek : k = n := by omega
      subst ek
      have i1 : ¬ (k : Int) < (k : Int) := by omega
      have hrow2 : RRow wr w.heap.size k f := hrow.out.congr (fun j hj => by rw [if_pos hj])
      have hG := GaveF.row hrow2 hN.out hB.out
      clear hrow2 hrow hN
      go_wp2
      go_ret
      exact ⟨_, rfl, hG⟩
set_option maxHeartbeats 1000000 in
theorem tog_add (o : Nat → Option Nat) (n m cap cap2 A B : Nat) (ao bo : Option Addr) (w : World) (hn : n ≤ 17592186044416) (hm : m ≤ 17592186044416) (hcl : fitN n m = 0 → ∀ (i : Nat) (wr : World), i < n → Below w.heap.size w wr → Calls Try.prog 34 #[.int .i64 i, .pointer (some ⟨A, 0, none⟩), .pointer (some ⟨B, 0, none⟩)] wr fun e w' => ∃ r, e = .returned (.float .f64 r) ∧ NR (o i) r ∧ Below wr.heap.size wr w') :
    Calls Try.prog 33 #[.slice ao n cap, .slice bo m cap2, .func (.func 34) #[] #[.pointer (some ⟨A, 0, none⟩), .pointer (some ⟨B, 0, none⟩)]] w fun e w' => ∃ v, e = .returned (.tuple #[v, .int .i64 (fitN n m)]) ∧ GaveF w (ifFit n m (tab n o)) v w' := by
  have cf := fun w => fit_any n m cap cap2 ao bo (by omega) (by omega) w
  unfold ifFit
  by_cases hq : fitN n m = 0
  · rw [if_pos hq]
    have cg := filled_add o n A B w hn (hcl hq)
    rw [hq] at cf ⊢
    clear hcl hq
    go_enter Try.func33, Try.ntmps33
    go_wp2_with (first
      | (go_at_call 38; refine (cf _).mono ?_; rintro e w' ⟨rfl, rfl⟩)
      | (go_at_call 40; refine cg.mono ?_; rintro e w1 ⟨v, rfl, hv⟩))
    exact bodyPost_ret (v := .tuple #[v, .int .i64 0]) (by simp [results, Try.results33, go_sem]) rfl ⟨v, rfl, hv⟩
  · rw [if_neg hq]
    have hG := GaveF.nil (Below.refl w.heap.size w)
    clear hcl
    generalize fitN n m = q at *
    go_enter Try.func33, Try.ntmps33
    go_wp2_with (go_at_call 38; refine (cf _).mono ?_; rintro e w' ⟨rfl, rfl⟩)
    exact bodyPost_ret (v := .tuple #[.slice none 0 0, .int .i64 q]) (by simp [results, Try.results33, go_sem]) rfl ⟨_, rfl, hG⟩
set_option maxHeartbeats 1000000 in
theorem filled_sub (o : Nat → Option Nat) (n A B : Nat) (w : World) (hn : n ≤ 17592186044416) (hcl : ∀ (i : Nat) (wr : World), i < n → Below w.heap.size w wr → Calls Try.prog 35 #[.int .i64 i, .pointer (some ⟨A, 0, none⟩), .pointer (some ⟨B, 0, none⟩)] wr fun e w' => ∃ r, e = .returned (.float .f64 r) ∧ NR (o i) r ∧ Below wr.heap.size wr w') :
    Calls Try.prog 40 #[.int .i64 n, .func (.func 35) #[] #[.pointer (some ⟨A, 0, none⟩), .pointer (some ⟨B, 0, none⟩)]] w fun e w' => ∃ v, e = .returned v ∧ GaveF w (tab n o) v w' := by
  have hmk := run_make_row' (P := Try.prog) 23 22 (.float .f64 0) 8 Try.underlying23 Try.infoF rfl .i64 .i64 n (by omega) (by omega)
  have hmade := RRow.made w n
  have hbm : Below w.heap.size w (w.alloc (.cells (madeCells #[.float .f64 0] n) 22)) := (Below.refl _ _).alloc (Nat.le_refl _) _
  have hsz : w.heap.size < (w.alloc (.cells (madeCells #[.float .f64 0] n) 22)).heap.size := by simp
  go_enter Try.func40, Try.ntmps40
  go_wp2
  clear hmk
  go_loopg [6, 10] n (fun g _ i wr => ∃ (k : Nat) (f : Nat → Nat), k ≤ n ∧ g = n - k ∧ i = .int .i64 k ∧ Hid (∀ j, j < k → NR (o j) (f j)) ∧ Hid (RRow wr w.heap.size n (fun j => if j < k then f j else 0)) ∧ Hid (w.heap.size < wr.heap.size) ∧ Hid (Below w.heap.size w wr))
  case atStart => exact ⟨0, fun _ => 0, Nat.zero_le _, rfl, rfl, fun j hj => by omega, hmade.congr (fun j hj => by simp), hsz, hbm⟩
  case round =>
    obtain ⟨k, f, hk, hg, rfl, hN, hrow, hsz', hB⟩ := hrel
    have HG : Hid (gk = n - k) := hg
    clear hg hmade hbm hsz
    by_cases hlt : k < n
    · have cc := hcl k wr hlt hB.out
      have hst := vstoref Try.prog
      have i1 : (k : Int) < (n : Int) := by omega
      go_wp2_with (go_at_call 35; refine cc.mono ?_; rintro e w1 ⟨r, rfl, hr, b1⟩; have row1 := hrow.out.below b1 hsz'.out; have g2 := World.rowIs.cell row1 hlt; have g3 := World.rowIs.frozen row1 k)
      have hs := row1.set k r
      have hB1 : Below w.heap.size w (w1.setCell ⟨w.heap.size, k, none⟩ (.float .f64 r)) := (hB.out.trans (b1.mono hB.out.size)).setCell (Nat.le_refl _) _
      have hz : w.heap.size < (w1.setCell ⟨w.heap.size, k, none⟩ (.float .f64 r)).heap.size := by have := b1.size; have := hsz'.out; simp; omega
      go_roundg (n - (k + 1))
      case measure => rw [HG.out]; omega
      case rel =>
        refine ⟨k + 1, fun j => if j = k then r else f j, by omega, rfl, by go_num, fun j hj => ?_, hs.congr (fun j hj => ?_), hz, hB1⟩
        · by_cases e : j = k
          · subst e; simpa using hr
          · simp only [e, if_false]; exact hN.out j (by omega)
        · by_cases e : j = k
          · subst e; simp
          · simp only [e, if_false]
            by_cases e2 : j < k
            · rw [if_pos e2, if_pos (by omega)]
            · rw [if_neg e2, if_neg (by omega)]
    · have ek : k = n := by omega
      subst ek
      have i1 : ¬ (k : Int) < (k : Int) := by omega
      have hrow2 : RRow wr w.heap.size k f := hrow.out.congr (fun j hj => by rw [if_pos hj])
      have hG := GaveF.row hrow2 hN.out hB.out
      clear hrow2 hrow hN
      go_wp2
      go_ret
      exact ⟨_, rfl, hG⟩
set_option maxHeartbeats 1000000 in
theorem tog_sub (o : Nat → Option Nat) (n m cap cap2 A B : Nat) (ao bo : Option Addr) (w : World) (hn : n ≤ 17592186044416) (hm : m ≤ 17592186044416) (hcl : fitN n m = 0 → ∀ (i : Nat) (wr : World), i < n → Below w.heap.size w wr → Calls Try.prog 35 #[.int .i64 i, .pointer (some ⟨A, 0, none⟩), .pointer (some ⟨B, 0, none⟩)] wr fun e w' => ∃ r, e = .returned (.float .f64 r) ∧ NR (o i) r ∧ Below wr.heap.size wr w') :
    Calls Try.prog 33 #[.slice ao n cap, .slice bo m cap2, .func (.func 35) #[] #[.pointer (some ⟨A, 0, none⟩), .pointer (some ⟨B, 0, none⟩)]] w fun e w' => ∃ v, e = .returned (.tuple #[v, .int .i64 (fitN n m)]) ∧ GaveF w (ifFit n m (tab n o)) v w' := by
  have cf := fun w => fit_any n m cap cap2 ao bo (by omega) (by omega) w
  unfold ifFit
  by_cases hq : fitN n m = 0
  · rw [if_pos hq]
    have cg := filled_sub o n A B w hn (hcl hq)
    rw [hq] at cf ⊢
    clear hcl hq
    go_enter Try.func33, Try.ntmps33
    go_wp2_with (first
      | (go_at_call 38; refine (cf _).mono ?_; rintro e w' ⟨rfl, rfl⟩)
      | (go_at_call 40; refine cg.mono ?_; rintro e w1 ⟨v, rfl, hv⟩))
    exact bodyPost_ret (v := .tuple #[v, .int .i64 0]) (by simp [results, Try.results33, go_sem]) rfl ⟨v, rfl, hv⟩
  · rw [if_neg hq]
    have hG := GaveF.nil (Below.refl w.heap.size w)
    clear hcl
    generalize fitN n m = q at *
    go_enter Try.func33, Try.ntmps33
    go_wp2_with (go_at_call 38; refine (cf _).mono ?_; rintro e w' ⟨rfl, rfl⟩)
    exact bodyPost_ret (v := .tuple #[.slice none 0 0, .int .i64 q]) (by simp [results, Try.results33, go_sem]) rfl ⟨_, rfl, hG⟩
set_option maxHeartbeats 1000000 in
theorem filled_axpy (o : Nat → Option Nat) (n T A B : Nat) (w : World) (hn : n ≤ 17592186044416) (hcl : ∀ (i : Nat) (wr : World), i < n → Below w.heap.size w wr → Calls Try.prog 37 #[.int .i64 i, .pointer (some ⟨T, 0, none⟩), .pointer (some ⟨A, 0, none⟩), .pointer (some ⟨B, 0, none⟩)] wr fun e w' => ∃ r, e = .returned (.float .f64 r) ∧ NR (o i) r ∧ Below wr.heap.size wr w') :
    Calls Try.prog 40 #[.int .i64 n, .func (.func 37) #[] #[.pointer (some ⟨T, 0, none⟩), .pointer (some ⟨A, 0, none⟩), .pointer (some ⟨B, 0, none⟩)]] w fun e w' => ∃ v, e = .returned v ∧ GaveF w (tab n o) v w' := by
  have hmk := run_make_row' (P := Try.prog) 23 22 (.float .f64 0) 8 Try.underlying23 Try.infoF rfl .i64 .i64 n (by omega) (by omega)
  have hmade := RRow.made w n
  have hbm : Below w.heap.size w (w.alloc (.cells (madeCells #[.float .f64 0] n) 22)) := (Below.refl _ _).alloc (Nat.le_refl _) _
  have hsz : w.heap.size < (w.alloc (.cells (madeCells #[.float .f64 0] n) 22)).heap.size := by simp
  go_enter Try.func40, Try.ntmps40
  go_wp2
  clear hmk
  go_loopg [6, 10] n (fun g _ i wr => ∃ (k : Nat) (f : Nat → Nat), k ≤ n ∧ g = n - k ∧ i = .int .i64 k ∧ Hid (∀ j, j < k → NR (o j) (f j)) ∧ Hid (RRow wr w.heap.size n (fun j => if j < k then f j else 0)) ∧ Hid (w.heap.size < wr.heap.size) ∧ Hid (Below w.heap.size w wr))
  case atStart => exact ⟨0, fun _ => 0, Nat.zero_le _, rfl, rfl, fun j hj => by omega, hmade.congr (fun j hj => by simp), hsz, hbm⟩
  case round =>
    obtain ⟨k, f, hk, hg, rfl, hN, hrow, hsz', hB⟩ := hrel
    have HG : Hid (gk = n - k) := hg
    clear hg hmade hbm hsz
    by_cases hlt : k < n
    · have cc := hcl k wr hlt hB.out
      have hst := vstoref Try.prog
      have i1 : (k : Int) < (n : Int) := by omega
      go_wp2_with (go_at_call 37; refine cc.mono ?_; rintro e w1 ⟨r, rfl, hr, b1⟩; have row1 := hrow.out.below b1 hsz'.out; have g2 := World.rowIs.cell row1 hlt; have g3 := World.rowIs.frozen row1 k)
      have hs := row1.set k r
      have hB1 : Below w.heap.size w (w1.setCell ⟨w.heap.size, k, none⟩ (.float .f64 r)) := (hB.out.trans (b1.mono hB.out.size)).setCell (Nat.le_refl _) _
      have hz : w.heap.size < (w1.setCell ⟨w.heap.size, k, none⟩ (.float .f64 r)).heap.size := by have := b1.size; have := hsz'.out; simp; omega
      go_roundg (n - (k + 1))
      case measure => rw [HG.out]; omega
      case rel =>
        refine ⟨k + 1, fun j => if j = k then r else f j, by omega, rfl, by go_num, fun j hj => ?_, hs.congr (fun j hj => ?_), hz, hB1⟩
        · by_cases e : j = k
          · subst e; simpa using hr
          · simp only [e, if_false]; exact hN.out j (by omega)
        · by_cases e : j = k
          · subst e; simp
          · simp only [e, if_false]
            by_cases e2 : j < k
            · rw [if_pos e2, if_pos (by omega)]
            · rw [if_neg e2, if_neg (by omega)]
    · have ek : k = n := by omega
      subst ek
      have i1 : ¬ (k : Int) < (k : Int) := by omega
      have hrow2 : RRow wr w.heap.size k f := hrow.out.congr (fun j hj => by rw [if_pos hj])
      have hG := GaveF.row hrow2 hN.out hB.out
      clear hrow2 hrow hN
      go_wp2
      go_ret
      exact ⟨_, rfl, hG⟩
set_option maxHeartbeats 1000000 in
theorem tog_axpy (o : Nat → Option Nat) (n m cap cap2 T A B : Nat) (ao bo : Option Addr) (w : World) (hn : n ≤ 17592186044416) (hm : m ≤ 17592186044416) (hcl : fitN n m = 0 → ∀ (i : Nat) (wr : World), i < n → Below w.heap.size w wr → Calls Try.prog 37 #[.int .i64 i, .pointer (some ⟨T, 0, none⟩), .pointer (some ⟨A, 0, none⟩), .pointer (some ⟨B, 0, none⟩)] wr fun e w' => ∃ r, e = .returned (.float .f64 r) ∧ NR (o i) r ∧ Below wr.heap.size wr w') :
    Calls Try.prog 33 #[.slice ao n cap, .slice bo m cap2, .func (.func 37) #[] #[.pointer (some ⟨T, 0, none⟩), .pointer (some ⟨A, 0, none⟩), .pointer (some ⟨B, 0, none⟩)]] w fun e w' => ∃ v, e = .returned (.tuple #[v, .int .i64 (fitN n m)]) ∧ GaveF w (ifFit n m (tab n o)) v w' := by
  have cf := fun w => fit_any n m cap cap2 ao bo (by omega) (by omega) w
  unfold ifFit
  by_cases hq : fitN n m = 0
  · rw [if_pos hq]
    have cg := filled_axpy o n T A B w hn (hcl hq)
    rw [hq] at cf ⊢
    clear hcl hq
    go_enter Try.func33, Try.ntmps33
    go_wp2_with (first
      | (go_at_call 38; refine (cf _).mono ?_; rintro e w' ⟨rfl, rfl⟩)
      | (go_at_call 40; refine cg.mono ?_; rintro e w1 ⟨v, rfl, hv⟩))
    exact bodyPost_ret (v := .tuple #[v, .int .i64 0]) (by simp [results, Try.results33, go_sem]) rfl ⟨v, rfl, hv⟩
  · rw [if_neg hq]
    have hG := GaveF.nil (Below.refl w.heap.size w)
    clear hcl
    generalize fitN n m = q at *
    go_enter Try.func33, Try.ntmps33
    go_wp2_with (go_at_call 38; refine (cf _).mono ?_; rintro e w' ⟨rfl, rfl⟩)
    exact bodyPost_ret (v := .tuple #[.slice none 0 0, .int .i64 q]) (by simp [results, Try.results33, go_sem]) rfl ⟨_, rfl, hG⟩
set_option maxHeartbeats 1000000 in
theorem filled_scale (o : Nat → Option Nat) (n T A : Nat) (w : World) (hn : n ≤ 17592186044416) (hcl : ∀ (i : Nat) (wr : World), i < n → Below w.heap.size w wr → Calls Try.prog 41 #[.int .i64 i, .pointer (some ⟨T, 0, none⟩), .pointer (some ⟨A, 0, none⟩)] wr fun e w' => ∃ r, e = .returned (.float .f64 r) ∧ NR (o i) r ∧ Below wr.heap.size wr w') :
    Calls Try.prog 40 #[.int .i64 n, .func (.func 41) #[] #[.pointer (some ⟨T, 0, none⟩), .pointer (some ⟨A, 0, none⟩)]] w fun e w' => ∃ v, e = .returned v ∧ GaveF w (tab n o) v w' := by
  have hmk := run_make_row' (P := Try.prog) 23 22 (.float .f64 0) 8 Try.underlying23 Try.infoF rfl .i64 .i64 n (by omega) (by omega)
  have hmade := RRow.made w n
  have hbm : Below w.heap.size w (w.alloc (.cells (madeCells #[.float .f64 0] n) 22)) := (Below.refl _ _).alloc (Nat.le_refl _) _
  have hsz : w.heap.size < (w.alloc (.cells (madeCells #[.float .f64 0] n) 22)).heap.size := by simp
  go_enter Try.func40, Try.ntmps40
  go_wp2
  clear hmk
  go_loopg [6, 10] n (fun g _ i wr => ∃ (k : Nat) (f : Nat → Nat), k ≤ n ∧ g = n - k ∧ i = .int .i64 k ∧ Hid (∀ j, j < k → NR (o j) (f j)) ∧ Hid (RRow wr w.heap.size n (fun j => if j < k then f j else 0)) ∧ Hid (w.heap.size < wr.heap.size) ∧ Hid (Below w.heap.size w wr))
  case atStart => exact ⟨0, fun _ => 0, Nat.zero_le _, rfl, rfl, fun j hj => by omega, hmade.congr (fun j hj => by simp), hsz, hbm⟩
  case round =>
    obtain ⟨k, f, hk, hg, rfl, hN, hrow, hsz', hB⟩ := hrel
    have HG : Hid (gk = n - k) := hg
    clear hg hmade hbm hsz
    by_cases hlt : k < n
    · have cc := hcl k wr hlt hB.out
      have hst := vstoref Try.prog
      have i1 : (k : Int) < (n : Int) := by omega
      go_wp2_with (go_at_call 41; refine cc.mono ?_; rintro e w1 ⟨r, rfl, hr, b1⟩; have row1 := hrow.out.below b1 hsz'.out; have g2 := World.rowIs.cell row1 hlt; have g3 := World.rowIs.frozen row1 k)
      have hs := row1.set k r
      have hB1 : Below w.heap.size w (w1.setCell ⟨w.heap.size, k, none⟩ (.float .f64 r)) := (hB.out.trans (b1.mono hB.out.size)).setCell (Nat.le_refl _) _
      have hz : w.heap.size < (w1.setCell ⟨w.heap.size, k, none⟩ (.float .f64 r)).heap.size := by have := b1.size; have := hsz'.out; simp; omega
      go_roundg (n - (k + 1))
      case measure => rw [HG.out]; omega
      case rel =>
        refine ⟨k + 1, fun j => if j = k then r else f j, by omega, rfl, by go_num, fun j hj => ?_, hs.congr (fun j hj => ?_), hz, hB1⟩
        · by_cases e : j = k
          · subst e; simpa using hr
          · simp only [e, if_false]; exact hN.out j (by omega)
        · by_cases e : j = k
          · subst e; simp
          · simp only [e, if_false]
            by_cases e2 : j < k
            · rw [if_pos e2, if_pos (by omega)]
            · rw [if_neg e2, if_neg (by omega)]
    · have ek : k = n := by omega
      subst ek
      have i1 : ¬ (k : Int) < (k : Int) := by omega
      have hrow2 : RRow wr w.heap.size k f := hrow.out.congr (fun j hj => by rw [if_pos hj])
      have hG := GaveF.row hrow2 hN.out hB.out
      clear hrow2 hrow hN
      go_wp2
      go_ret
      exact ⟨_, rfl, hG⟩
end Go.Proofs.Ytojdlheblnjoiaa
