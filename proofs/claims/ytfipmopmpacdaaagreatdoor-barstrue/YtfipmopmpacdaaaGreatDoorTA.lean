/- Joints and members in blocks that may be written. -/
import Derived.Laws.IdiomStrings
import Derived.Test.YtfipmopmpacdaaaGreatDoorBA
import Derived.Test.YtfipmopmpacdaaaGreatDoorBD
import Derived.Laws.OwnMore
import Derived.Deep.AppendLies
import Derived.OwnWalk
import Derived.Maps.AppendAt
import Derived.Test.YtfipmopmpacdaaaGreatDoorBB
namespace Go.Proofs.YtfipmopmpacdaaaGreatDoor
open Go.RowKit
def IsRow (w : World) (ao : Option Addr) (xs : List Int) : Prop := xs.length = 0 ∨ ∃ b off, ao = some ⟨b, off, none⟩ ∧ ∀ j, j < xs.length → w.cell? ⟨b, off + j, none⟩ = some (.int .i64 (xs.getD j 0))
theorem IsRow.below {w w' : World} {ao : Option Addr} {xs : List Int} (h : IsRow w ao xs) (hb : Below w.heap.size w w') : IsRow w' ao xs := by
 rcases h with h | ⟨b, off, rfl, hc⟩
 ·exact Or.inl h
 ·exact Or.inr ⟨b, off, rfl, fun j hj => by rw [hb.cell (World.block_lt_of_cell? w _ (hc j hj))]; exact hc j hj⟩
theorem FsRow.below {w w' : World} {ao : Option Addr} {xs : List Nat} (h : FsRow w ao xs) (hb : Below w.heap.size w w') : FsRow w' ao xs := by
 rcases h with h | ⟨b, off, rfl, hc⟩
 ·exact Or.inl h
 ·exact Or.inr ⟨b, off, rfl, fun j hj => by rw [hb.cell (World.block_lt_of_cell? w _ (hc j hj))]; exact hc j hj⟩
def I64s (xs : List Int) : Prop := ∀ x, x ∈ xs → -9223372036854775808 ≤ x ∧ x ≤ 9223372036854775807
theorem I64s.at {xs : List Int} (h : I64s xs) {k : Nat} (hk : k < xs.length) : -9223372036854775808 ≤ xs.getD k 0 ∧ xs.getD k 0 ≤ 9223372036854775807 := by
 have e : xs.getD k 0 = xs[k] := by simp [List.getD, hk]
 rw [e]
 exact h _ (List.getElem_mem hk)
def prA (xs : List Int) (k : Nat) : Int := if xs.length = 0 then 0 else xs.getD (k % xs.length) 0
theorem prA_in {xs : List Int} (h : I64s xs) (k : Nat) : -9223372036854775808 ≤ prA xs k ∧ prA xs k ≤ 9223372036854775807 := by
 unfold prA
 split
 ·omega
 ·exact h.at (Nat.mod_lt _ (by omega))
set_option maxHeartbeats 1000000 in
theorem spart_any (xs : List Int) (ao : Option Addr) (ac k : Nat) (w : World) (h : IsRow w ao xs) (hn : xs.length ≤ 1125899906842624) :
  Calls Tryz.prog 13 #[.slice ao xs.length ac, .int .i64 k] w fun e w' => e = .returned (.int .i64 (prA xs k)) ∧ w' = w := by
 have HP : Hid (prA xs k = if xs.length = 0 then 0 else xs.getD (k % xs.length) 0) := (show _ = _ from rfl)
 obtain ⟨N, hN⟩ : ∃ N, xs.length = N := ⟨_, rfl⟩
 rw [hN] at hn HP ⊢
 generalize prA xs k = pr at *
 by_cases h0 : N = 0
 ·subst h0
  go_enter Tryz.func13, Tryz.ntmps13
  go_wp2
  go_ret
  exact ⟨by rw [HP.out]; rfl, rfl⟩
 ·rcases h with h | ⟨b, off, rfl, hc⟩
  ·exact absurd (hN ▸ h) h0
  ·have hlt : k % N < xs.length := by rw [hN]; exact Nat.mod_lt _ (by omega)
   have g := hc _ hlt
   have et : ((k : Int).tmod (N : Int)) = ((k % N : Nat) : Int) := by rw [Int.tmod_eq_emod_of_nonneg (by omega)]; simp
   have c0 : ¬ (N : Int) = 0 := by omega
   have i1 : ((k % N : Nat) : Int) < (N : Int) := by have := hN ▸ hlt; omega
   have HP2 : Hid (pr = xs.getD (k % N) 0) := HP.out.trans (by rw [if_neg h0])
   clear HP
   generalize xs.getD (k % N) 0 = m at *
   generalize k % N = q at *
   clear hc hlt hN
   go_enter Tryz.func13, Tryz.ntmps13
   go_wp2
   go_ret
   exact ⟨by rw [HP2.out]; rfl, rfl⟩
def nmQ (x : Nat) : Nat := if nbB x then x else 4607182418800017408
theorem nmQ_ok (x : Nat) : nbB (nmQ x) = true := by
 unfold nmQ
 split
 ·assumption
 ·kernel_rfl
set_option maxHeartbeats 1000000 in
theorem sNumber_any (x : Nat) (hx : x < 18446744073709551616) (w : World) :
  Calls Tryz.prog 28 #[.float .f64 x] w fun e w' => e = .returned (.float .f64 (nmQ x)) ∧ w' = w := by
 have HQ : Hid (nmQ x = if nbB x then x else 4607182418800017408) := (show _ = _ from rfl)
 have HB : Hid (nbB x = (leF 4336966441157787648 x && leF x 4877398396442247168)) := (show _ = _ from rfl)
 have e0 := bge_le hx (c := 4336966441157787648) (by omega) (by decide)
 have e1 : (FloatKind.f64.format.order x 4336966441157787648 == some .gt || FloatKind.f64.format.order x 4336966441157787648 == some .eq) = geF x 4336966441157787648 := rfl
 have e2 : (FloatKind.f64.format.order x 4877398396442247168 == some .lt || FloatKind.f64.format.order x 4877398396442247168 == some .eq) = leF x 4877398396442247168 := rfl
 rw [e0] at e1
 clear e0
 generalize nmQ x = nx at *
 generalize nbB x = nb at *
 generalize leF 4336966441157787648 x = p at *
 generalize leF x 4877398396442247168 = q at *
 cases p
 ·go_enter Tryz.func28, Tryz.ntmps28
  go_wp2
  go_ret
  exact ⟨by rw [HQ.out, HB.out]; rfl, rfl⟩
 ·cases q
  ·go_enter Tryz.func28, Tryz.ntmps28
   go_wp2
   go_ret
   exact ⟨by rw [HQ.out, HB.out]; rfl, rfl⟩
  ·go_enter Tryz.func28, Tryz.ntmps28
   go_wp2
   go_ret
   exact ⟨by rw [HQ.out, HB.out]; rfl, rfl⟩
def F64s (xs : List Nat) : Prop := ∀ x, x ∈ xs → x < 18446744073709551616
theorem F64s.at {xs : List Nat} (h : F64s xs) {k : Nat} (hk : k < xs.length) : xs.getD k 0 < 18446744073709551616 := by
 have e : xs.getD k 0 = xs[k] := by simp [List.getD, hk]
 rw [e]
 exact h _ (List.getElem_mem hk)
def nuA (xs : List Nat) (k : Nat) : Nat := if xs.length = 0 then 4607182418800017408 else nmQ (xs.getD (k % xs.length) 0)
theorem nuA_ok (xs : List Nat) (k : Nat) : nbB (nuA xs k) = true := by
 unfold nuA
 split
 ·kernel_rfl
 ·exact nmQ_ok _
theorem nuA_lt {xs : List Nat} (h : F64s xs) (k : Nat) : nuA xs k < 18446744073709551616 := by
 unfold nuA
 split
 ·omega
 ·unfold nmQ
  split
  ·exact h.at (Nat.mod_lt _ (by omega))
  ·omega
set_option maxHeartbeats 1000000 in
theorem snum_any (xs : List Nat) (ao : Option Addr) (ac k : Nat) (w : World) (h : FsRow w ao xs) (hf : F64s xs) (hn : xs.length ≤ 1125899906842624) :
  Calls Tryz.prog 14 #[.slice ao xs.length ac, .int .i64 k] w fun e w' => e = .returned (.float .f64 (nuA xs k)) ∧ w' = w := by
 have HP : Hid (nuA xs k = if xs.length = 0 then 4607182418800017408 else nmQ (xs.getD (k % xs.length) 0)) := (show _ = _ from rfl)
 obtain ⟨N, hN⟩ : ∃ N, xs.length = N := ⟨_, rfl⟩
 rw [hN] at hn HP ⊢
 generalize nuA xs k = pr at *
 by_cases h0 : N = 0
 ·subst h0
  go_enter Tryz.func14, Tryz.ntmps14
  go_wp2
  go_ret
  exact ⟨by rw [HP.out]; rfl, rfl⟩
 ·rcases h with h | ⟨b, off, rfl, hc⟩
  ·exact absurd (hN ▸ h) h0
  ·have hlt : k % N < xs.length := by rw [hN]; exact Nat.mod_lt _ (by omega)
   have g := hc _ hlt
   have hb := hf.at hlt
   have et : ((k : Int).tmod (N : Int)) = ((k % N : Nat) : Int) := by rw [Int.tmod_eq_emod_of_nonneg (by omega)]; simp
   have c0 : ¬ (N : Int) = 0 := by omega
   have i1 : ((k % N : Nat) : Int) < (N : Int) := by have := hN ▸ hlt; omega
   have HP2 : Hid (pr = nmQ (xs.getD (k % N) 0)) := HP.out.trans (by rw [if_neg h0])
   clear HP
   generalize xs.getD (k % N) 0 = m at *
   generalize k % N = q at *
   clear hc hlt hN hf
   go_enter Tryz.func14, Tryz.ntmps14
   go_wp2_with (go_at_call 28; refine (sNumber_any m hb _).mono ?_; rintro e w1 ⟨rfl, rfl⟩)
   go_ret
   exact ⟨by rw [HP2.out]; rfl, rfl⟩
def pkA (x : Int) (c : Nat) : Nat := (x % (c : Int)).toNat
theorem pkA_lt (x : Int) {c : Nat} (h : 1 ≤ c) : pkA x c < c := by
 unfold pkA
 have h1 := Int.emod_nonneg x (show (c : Int) ≠ 0 by omega)
 have h2 := Int.emod_lt_of_pos x (show (0 : Int) < c by omega)
 omega
set_option maxHeartbeats 1000000 in
theorem spick_any (x : Int) (c : Nat) (h1 : 1 ≤ c) (h2 : c ≤ 1000000000) (w : World) : Calls Tryz.prog 11 #[.int .i64 x, .int .i64 c] w fun e w' => e = .returned (.int .i64 (pkA x c : Nat)) ∧ w' = w := by
 have b1 : x.tmod c < c := Int.tmod_lt_of_pos x (by omega)
 have b2 : -(c : Int) < x.tmod c := by
  have := Int.tmod_lt_of_pos (-x) (show (0 : Int) < c by omega)
  rw [Int.neg_tmod] at this
  omega
 have c0 : ¬ (c : Int) = 0 := by omega
 have HE : Hid (((pkA x c : Nat) : Int) = if x.tmod c < 0 then x.tmod c + c else x.tmod c) := (show _ = _ by
  have e : x.tmod c % (c : Int) = x % (c : Int) := by
   conv => rhs; rw [← Int.tmod_add_mul_tdiv x c]
   rw [Int.add_mul_emod_self_left]
  have m0 := Int.emod_nonneg x (show (c : Int) ≠ 0 by omega)
  have m1 := Int.emod_lt_of_pos x (show (0 : Int) < c by omega)
  unfold pkA
  rw [Int.toNat_of_nonneg m0]
  split
  ·rw [← Int.add_emod_right, Int.emod_eq_of_lt (by omega) (by omega)] at e
   exact e.symm
  ·rw [Int.emod_eq_of_lt (by omega) (by omega)] at e
   exact e.symm)
 generalize ((pkA x c : Nat) : Int) = pk at *
 by_cases h : x.tmod c < 0
 ·generalize hy : x.tmod c = y at *
  go_enter Tryz.func11, Tryz.ntmps11
  go_wp2
  go_ret
  exact ⟨by rw [HE.out, if_pos h]; rfl, rfl⟩
 ·generalize hy : x.tmod c = y at *
  go_enter Tryz.func11, Tryz.ntmps11
  go_wp2
  go_ret
  exact ⟨by rw [HE.out, if_neg (by omega)]; rfl, rfl⟩
def sN (l k : Nat) : ByteArray := ⟨#[UInt8.ofNat l, 48 + UInt8.ofNat k]⟩
theorem bytes2 (l m : Nat) (y z : Int) (hl : l < 256) (hm : m < 256) (hy : (l : Int) = y) (hz : (m : Int) = z) (w : World) : (convert 46 9 (.slice (some ⟨w.heap.size, 0, none⟩) 2 2)).run Tryz.prog (w.alloc (.cells #[.int .u8 y, .int .u8 z] 5)) = .ok (.string ⟨#[UInt8.ofNat l, UInt8.ofNat m]⟩) (w.alloc (.cells #[.int .u8 y, .int .u8 z] 5)) := by
 subst hy hz
 refine run_convert_bytes_back _ _ _ 5 _ 2 [UInt8.ofNat l, UInt8.ofNat m] Tryz.underlying46 Tryz.underlying5 Tryz.underlying9 (fun j hj => ?_)
 have hj2 : j < 2 := hj
 rcases (show j = 0 ∨ j = 1 by omega) with rfl | rfl
 all_goals simp [go_sem, Addr.add]
 all_goals omega
set_option maxRecDepth 100000 in
set_option maxHeartbeats 1000000 in
theorem sname_any (l k : Nat) (hl : l < 256) (hk : k < 10) (w : World) :
  Calls Tryz.prog 12 #[.int .u8 l, .int .i64 k] w fun e w' => e = .returned (.string (sN l k)) ∧ Below w.heap.size w w' := by
 have et : ((k : Int).tmod 10) = (k : Int) := by rw [Int.tmod_eq_emod_of_nonneg (by omega)]; omega
 have ew : IntKind.u8.wrap (48 + (k : Int)) = 48 + (k : Int) := by simp [IntKind.wrap, IntKind.bits, IntKind.signed]; omega
 have hcv := fun w' => bytes2 l (48 + k) l (48 + (k : Int)) hl (by omega) rfl (by omega) w'
 go_enter Tryz.func12, Tryz.ntmps12
 go_wp2
 go_ret
 exact ⟨rfl, (Below.refl _ _).alloc (Nat.le_refl _) _⟩
theorem skj_row {w : World} {base : Nat} {v : Value} {ps : List Jn} (h : w.ownsRow base 40 4 v ps.length (jnc ps)) : ∃ ao cap, v = .slice ao ps.length cap ∧ JRow w ao ps := by
 obtain ⟨h1, h2⟩ := h
 rcases h2 with ⟨rfl, hn⟩ | ⟨g, cap, cur, rfl, hg, hh, hc⟩
 ·exact ⟨none, 0, by rw [hn], Or.inl hn⟩
 ·refine ⟨some ⟨g, 0, none⟩, cap, rfl, Or.inr ⟨g, 0, rfl, fun j hj => ?_⟩⟩
  have own : w.ownsRow base 40 4 (.slice (some ⟨g, 0, none⟩) ps.length cap) ps.length (jnc ps) := ⟨h1, Or.inr ⟨g, cap, cur, rfl, hg, hh, hc⟩⟩
  have e0 := own.cellAt (j * 4) (by omega)
  have e1 := own.cellAt (j * 4 + 1) (by omega)
  have e2 := own.cellAt (j * 4 + 2) (by omega)
  have e3 := own.cellAt (j * 4 + 3) (by omega)
  have hs := jnc_at ps j hj
  rw [Nat.zero_add]
  exact ⟨e0.trans hs.1, e1.trans hs.2.1, e2.trans hs.2.2.1, e3.trans hs.2.2.2⟩
theorem skm_row {w : World} {base : Nat} {v : Value} {ps : List Mb} (h : w.ownsRow base 38 9 v ps.length (mnc ps)) : ∃ ao cap, v = .slice ao ps.length cap ∧ MRow w ao ps := by
 obtain ⟨h1, h2⟩ := h
 rcases h2 with ⟨rfl, hn⟩ | ⟨g, cap, cur, rfl, hg, hh, hc⟩
 ·exact ⟨none, 0, by rw [hn], Or.inl hn⟩
 ·refine ⟨some ⟨g, 0, none⟩, cap, rfl, Or.inr ⟨g, 0, rfl, fun j hj => ?_⟩⟩
  have own : w.ownsRow base 38 9 (.slice (some ⟨g, 0, none⟩) ps.length cap) ps.length (mnc ps) := ⟨h1, Or.inr ⟨g, cap, cur, rfl, hg, hh, hc⟩⟩
  have e0 := own.cellAt (j * 9) (by omega)
  have e1 := own.cellAt (j * 9 + 1) (by omega)
  have e2 := own.cellAt (j * 9 + 2) (by omega)
  have e3 := own.cellAt (j * 9 + 3) (by omega)
  have e4 := own.cellAt (j * 9 + 4) (by omega)
  have e5 := own.cellAt (j * 9 + 5) (by omega)
  have e6 := own.cellAt (j * 9 + 6) (by omega)
  have e7 := own.cellAt (j * 9 + 7) (by omega)
  have e8 := own.cellAt (j * 9 + 8) (by omega)
  obtain ⟨s0, s1, s2, s3, s4, s5, s6, s7, s8⟩ := mnc_at ps j hj
  rw [Nat.zero_add]
  exact ⟨e0.trans s0, e1.trans s1, e2.trans s2, e3.trans s3, e4.trans s4, e5.trans s5, e6.trans s6, e7.trans s7, e8.trans s8⟩
theorem sk_appj {w : World} {base : Nat} {v : Value} {ps : List Jn} (h : w.ownsRow base 40 4 v ps.length (jnc ps)) (hb : base ≤ w.heap.size) (p : Jn) (hn : ps.length ≤ 1000) : ∃ v' w1,
  ((Builtin.append_ #[26, 26] 26 #[v, .slice (some ⟨w.heap.size, 0, none⟩) 1 1]).run Tryz.prog (w.alloc (.cells #[.string p.1, .int .i32 p.2.1, .int .i32 p.2.2.1, .int .u8 p.2.2.2] 40)) = .ok v' w1) ∧
  w1.ownsRow base 40 4 v' (ps ++ [p]).length (jnc (ps ++ [p])) ∧ Below base w w1 := by
 obtain ⟨i0, hi, hz0, hz1, hz2⟩ := info_span Tryz.infoJ
 have hall := run_append_own_at (P := Tryz.prog) (w.alloc (.cells #[.string p.1, .int .i32 p.2.1, .int .i32 p.2.2.1, .int .u8 p.2.2.2] 40)) base 26 26 40 i0 (.agg #[.string ByteArray.empty, .int .i32 0, .int .i32 0, .int .u8 0]) 4 32 Tryz.underlying26 hi hz0 hz1 hz2 rfl (by decide) v ps.length (jnc ps) (h.alloc _) ⟨w.heap.size, 0, none⟩ 1 1 [.string p.1, .int .i32 p.2.1, .int .i32 p.2.2.1, .int .u8 p.2.2.2] rfl (World.news_of_block (cs := #[.string p.1, .int .i32 p.2.1, .int .i32 p.2.2.1, .int .u8 p.2.2.2]) (t := 40) (fr := (0, 0)) (heap_alloc_new _ _)) (by simp [Value.oneCell']) (by unfold maxLen; omega) (by omega) (by simp; omega)
 obtain ⟨v', w1, hr, h2, h3, _, _⟩ := hall
 refine ⟨v', w1, hr, ?_, ((Below.refl base w).alloc hb _).grown h3 (by simp; omega) (fun k hk => (h.lt k hk).1)⟩
 rw [List.length_append, jnc_app]
 exact h2
theorem sk_appm {w : World} {base : Nat} {v : Value} {ps : List Mb} (h : w.ownsRow base 38 9 v ps.length (mnc ps)) (hb : base ≤ w.heap.size) (p : Mb) (hn : ps.length ≤ 1000) : ∃ v' w1,
  ((Builtin.append_ #[27, 27] 27 #[v, .slice (some ⟨w.heap.size, 0, none⟩) 1 1]).run Tryz.prog (w.alloc (mO p 38)) = .ok v' w1) ∧
  w1.ownsRow base 38 9 v' (ps ++ [p]).length (mnc (ps ++ [p])) ∧ Below base w w1 := by
 obtain ⟨i0, hi, hz0, hz1, hz2⟩ := info_span Tryz.infoM
 have hall := run_append_own_at (P := Tryz.prog) (w.alloc (mO p 38)) base 27 27 38 i0 (.agg #[.string ByteArray.empty, .int .u8 0, .int .i64 0, .int .i64 0, .bool false, .bool false, .float .f64 0, .float .f64 0, .float .f64 0]) 9 72 Tryz.underlying27 hi hz0 hz1 hz2 rfl (by decide) v ps.length (mnc ps) (h.alloc _) ⟨w.heap.size, 0, none⟩ 1 1 [.string p.nm, .int .u8 p.kd, .int .i64 p.a, .int .i64 p.b, .bool p.ha, .bool p.hb, .float .f64 p.e, .float .f64 p.ar, .float .f64 p.i] rfl (World.news_of_block (cs := #[.string p.nm, .int .u8 p.kd, .int .i64 p.a, .int .i64 p.b, .bool p.ha, .bool p.hb, .float .f64 p.e, .float .f64 p.ar, .float .f64 p.i]) (t := 38) (fr := (0, 0)) (heap_alloc_new _ _)) (by simp [Value.oneCell']) (by unfold maxLen; omega) (by omega) (by simp; omega)
 obtain ⟨v', w1, hr, h2, h3, _, _⟩ := hall
 refine ⟨v', w1, hr, ?_, ((Below.refl base w).alloc hb _).grown h3 (by simp; omega) (fun k hk => (h.lt k hk).1)⟩
 rw [List.length_append, mnc_app]
 exact h2
theorem skapp_eq {ops : Array Oper} {rest : List Oper} {o : Oper} {a : Act} {Q : Exit → Act → World → Prop} {w w' : World} {t ty : TypeId} {v u v' : Value} (hr : (Builtin.append_ #[t, t] ty #[v, u]).run Tryz.prog w = .ok v' w') (hgd : o.guard = none) (s x : Operand)
  (ho : o.op = .call { callee := .builtin .append, args := #[s, x], argTypes := #[t, t] }) (hty : o.type = ty) (hs : a.eval s = v) (hx : a.eval x = u) (h : wpList Tryz.prog ops Q rest (a.put o.dst v') w') : wpList Tryz.prog ops Q (o :: rest) a w := by
 subst hty
 refine wpList_plain hgd fun K hK => ?_
 unfold Oper.wp execOp
 simp only [ho, resolve, invoke, builtin, Sem.run_bind, Sem.run_pure, Result.andThen_ok, List.map_toArray, List.map_cons, List.map_nil, hs, hx, hr]
 exact hK _ _ h
def SkJ (js : List Jn) : Prop := ∀ k, k < js.length → ∃ (x y : Int) (f : Nat), js.getD k jz = (sN 106 k, x, y, f) ∧ ((-8 ≤ x ∧ x ≤ 8) ∨ x = 20 + 3 * (k : Int)) ∧ (-8 ≤ y ∧ y ≤ 8) ∧ f < 8 ∧ ∀ q, q < k → ¬ ((js.getD q jz).2.1 = x ∧ (js.getD q jz).2.2.1 = y)
theorem jgetD_snoc {js : List Jn} {p : Jn} {k : Nat} : (js ++ [p]).getD k jz = if k < js.length then js.getD k jz else if k = js.length then p else jz := by
 by_cases h : k < js.length
 ·rw [if_pos h, List.getD_eq_getElem?_getD, List.getElem?_append_left h, ← List.getD_eq_getElem?_getD]
 ·rw [if_neg h, List.getD_eq_getElem?_getD, List.getElem?_append_right (by omega)]
  by_cases e : k = js.length
  ·rw [if_pos e, e]; simp
  ·rw [if_neg e]
   simp [show k - js.length ≠ 0 by omega]
theorem SkJ.snoc {js : List Jn} (h : SkJ js) {x y : Int} {f : Nat} (hx : (-8 ≤ x ∧ x ≤ 8) ∨ x = 20 + 3 * (js.length : Int)) (hy : -8 ≤ y ∧ y ≤ 8) (hf : f < 8) (hd : ∀ q, q < js.length → ¬ ((js.getD q jz).2.1 = x ∧ (js.getD q jz).2.2.1 = y)) : SkJ (js ++ [(sN 106 js.length, x, y, f)]) := fun k hk => by
 rw [List.length_append, List.length_singleton] at hk
 rcases Nat.lt_or_ge k js.length with hl | hg
 ·obtain ⟨x', y', f', e, a, b, c, d⟩ := h k hl
  refine ⟨x', y', f', by rw [jgetD_snoc, if_pos hl, e], a, b, c, fun q hq => ?_⟩
  rw [jgetD_snoc, if_pos (by omega)]
  exact d q hq
 ·obtain rfl : k = js.length := by omega
  refine ⟨x, y, f, by rw [jgetD_snoc, if_neg (by omega), if_pos rfl], hx, hy, hf, fun q hq => ?_⟩
  rw [jgetD_snoc, if_pos hq]
  exact hd q hq
def SkM (n : Nat) (ms : List Mb) : Prop := ∀ k, k < ms.length → ∃ m : Mb, ms.getD k mz = m ∧ m.nm = sN 109 k ∧ (0 ≤ m.a ∧ m.a < n) ∧ (0 ≤ m.b ∧ m.b < n) ∧ m.a ≠ m.b ∧ nbB m.e = true ∧ nbB m.ar = true ∧ ((m.kd = 1 ∧ m.ha = false ∧ m.hb = false ∧ m.i = 0) ∨ (m.kd = 2 ∧ nbB m.i = true)) ∧ MW m
theorem sk_mw {k kd a b e ar i : Nat} {ha hb : Bool} (hk : kd < 256) (h1 : a < 1000) (h2 : b < 1000) (he : e < 18446744073709551616) (har : ar < 18446744073709551616) (hi : i < 18446744073709551616) : MW ⟨sN 109 k, kd, (a : Nat), (b : Nat), ha, hb, e, ar, i⟩ :=
 ⟨by show (2 : Nat) ≤ maxLen; unfold maxLen; omega, hk, by show _ ≤ ((a : Nat) : Int); omega, by show ((a : Nat) : Int) ≤ _; omega, by show _ ≤ ((b : Nat) : Int); omega, by show ((b : Nat) : Int) ≤ _; omega, he, har, hi⟩
theorem mgetD_snoc {js : List Mb} {p : Mb} {k : Nat} : (js ++ [p]).getD k mz = if k < js.length then js.getD k mz else if k = js.length then p else mz := by
 by_cases h : k < js.length
 ·rw [if_pos h, List.getD_eq_getElem?_getD, List.getElem?_append_left h, ← List.getD_eq_getElem?_getD]
 ·rw [if_neg h, List.getD_eq_getElem?_getD, List.getElem?_append_right (by omega)]
  by_cases e : k = js.length
  ·rw [if_pos e, e]; simp
  ·rw [if_neg e]
   simp [show k - js.length ≠ 0 by omega]
theorem SkM.snoc {n : Nat} {ms : List Mb} (h : SkM n ms) {m : Mb} (h0 : m.nm = sN 109 ms.length) (h1 : 0 ≤ m.a ∧ m.a < n) (h2 : 0 ≤ m.b ∧ m.b < n) (h3 : m.a ≠ m.b) (h4 : nbB m.e = true) (h5 : nbB m.ar = true) (h6 : (m.kd = 1 ∧ m.ha = false ∧ m.hb = false ∧ m.i = 0) ∨ (m.kd = 2 ∧ nbB m.i = true)) (h7 : MW m) : SkM n (ms ++ [m]) := fun k hk => by
 rw [List.length_append, List.length_singleton] at hk
 rcases Nat.lt_or_ge k ms.length with hl | hg
 ·obtain ⟨m', e, r⟩ := h k hl
  exact ⟨m', by rw [mgetD_snoc, if_pos hl, e], r⟩
 ·obtain rfl : k = ms.length := by omega
  exact ⟨m, by rw [mgetD_snoc, if_neg (by omega), if_pos rfl], h0, h1, h2, h3, h4, h5, h6, h7⟩
theorem sN_ne : ∀ l : Fin 2, ∀ i : Fin 10, ∀ q : Fin 10, i ≠ q → sN (106 + 3 * l.val) i.val ≠ sN (106 + 3 * l.val) q.val := by decide
theorem sN_nm : ∀ l : Fin 2, ∀ i : Fin 10, nmB (sN (106 + 3 * l.val) i.val) = true := by decide
theorem jtake_mem {js : List Jn} {i : Nat} {j : Jn} (hj : j ∈ js.take i) : ∃ q, q < i ∧ q < js.length ∧ js.getD q jz = j := by
 obtain ⟨q, hq, rfl⟩ := List.getElem_of_mem hj
 rw [List.length_take] at hq
 refine ⟨q, by omega, by omega, ?_⟩
 rw [jgetD_at (by omega), List.getElem_take]
theorem mtake_mem {js : List Mb} {i : Nat} {j : Mb} (hj : j ∈ js.take i) : ∃ q, q < i ∧ q < js.length ∧ js.getD q mz = j := by
 obtain ⟨q, hq, rfl⟩ := List.getElem_of_mem hj
 rw [List.length_take] at hq
 refine ⟨q, by omega, by omega, ?_⟩
 rw [mgetD_at (by omega), List.getElem_take]
theorem sk_ck {js : List Jn} (h : SkJ js) (hn : js.length ≤ 4) : ckA js = (0, 0) := ck_ok (by omega) fun i hi => by
 obtain ⟨x, y, f, e, hx, hy, hf, hd⟩ := h i hi
 unfold fB
 rw [e]
 simp only
 have h1 : hsN (js.take i) (sN 106 i) = false := by
  unfold hsN
  rw [List.any_eq_false]
  intro j hj
  obtain ⟨q, q1, q2, rfl⟩ := jtake_mem hj
  obtain ⟨x', y', f', e', _⟩ := h q q2
  rw [e']
  simp only [decide_eq_true_eq]
  exact sN_ne 0 ⟨q, by omega⟩ ⟨i, by omega⟩ (by simp; omega)
 have h2 : hsP (js.take i) x y = false := by
  unfold hsP
  rw [List.any_eq_false]
  intro j hj
  obtain ⟨q, q1, q2, rfl⟩ := jtake_mem hj
  simpa using hd q q1
 have h3 : myB (sN 106 i, x, y, f) = true := by
  unfold myB
  have := sN_nm 0 ⟨i, by omega⟩
  simp only [Fin.val_zero, Nat.mul_zero, Nat.add_zero] at this
  simp [this, crB]
  omega
 rw [h1, h2, h3]
 rfl
theorem sk_cm {n : Nat} {ms : List Mb} (h : SkM n ms) (hn : ms.length ≤ 6) : cmA n ms = (0, 0) := cm_ok (by omega) fun i hi => by
 obtain ⟨m, e, h0, h1, h2, h3, h4, h5, h6, _⟩ := h i hi
 unfold fM
 rw [e, h0]
 have g1 : hsM (ms.take i) (sN 109 i) = false := by
  unfold hsM
  rw [List.any_eq_false]
  intro j hj
  obtain ⟨q, q1, q2, rfl⟩ := mtake_mem hj
  obtain ⟨m', e', h0', _⟩ := h q q2
  rw [e', h0']
  simp only [decide_eq_true_eq]
  exact sN_ne 1 ⟨q, by omega⟩ ⟨i, by omega⟩ (by simp; omega)
 have g2 : mmB n m = true := by
  unfold mmB
  have := sN_nm 1 ⟨i, by omega⟩
  have g3 : nmB m.nm = true := by rw [h0]; exact this
  have g4 : ldB m.a m.b n = true := by
   unfold ldB
   simp [h1, h2, h3]
  have g5 : kdB m = true := by
   unfold kdB
   rcases h6 with ⟨k, a, b, c⟩ | ⟨k, a⟩
   ·rw [if_pos k, a, b, c]; rfl
   ·rw [if_neg (by omega), if_pos k]; exact a
  rw [g3, g4, h4, h5, g5]
  rfl
 rw [g1, g2]
 rfl
theorem sk_cp {js : List Jn} {ms : List Mb} (h : SkJ js) (hn : js.length ≤ 4) (g : SkM js.length ms) (gn : ms.length ≤ 6) : cpA js ms = (0, 0) := by
 unfold cpA
 rw [sk_ck h hn, if_pos rfl, sk_cm g gn]
theorem JRow.far {w : World} {g h o : Nat} {js : List Jn} (r : JRow w (some ⟨g, 0, none⟩) js) (hn : g ≠ h) (v : Value) : JRow (w.setCell ⟨h, o, none⟩ v) (some ⟨g, 0, none⟩) js := by
 rcases r with r | ⟨b, off, e, hc⟩
 ·exact Or.inl r
 ·cases e
  refine Or.inr ⟨g, 0, rfl, fun k hk => ?_⟩
  obtain ⟨a, b, c, d⟩ := hc k hk
  simp only [Nat.zero_add] at a b c d ⊢
  exact ⟨by simp [go_sem, a], by simp [go_sem, b], by simp [go_sem, c], by simp [go_sem, d]⟩
end Go.Proofs.YtfipmopmpacdaaaGreatDoor
