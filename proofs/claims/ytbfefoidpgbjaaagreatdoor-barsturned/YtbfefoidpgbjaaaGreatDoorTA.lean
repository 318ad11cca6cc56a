/- Joints and members in blocks that may be written. -/
import Derived.Laws.IdiomStrings
import Derived.Test.YtbfefoidpgbjaaaGreatDoorBA
import Derived.Test.YtbfefoidpgbjaaaGreatDoorBC
import Derived.Laws.OwnMore
import Derived.Deep.AppendLies
import Derived.OwnWalk
import Derived.Maps.AppendAt
import Derived.Test.YtbfefoidpgbjaaaGreatDoorBB
import Derived.Test.YtbfefoidpgbjaaaGreatDoorBD
namespace Go.Proofs.YtbfefoidpgbjaaaGreatDoor
open Go.RowKit
def IsRow (w : World) (ao : Option Addr) (xs : List Int) : Prop := xs.length = 0 ∨ ∃ b off, ao = some ⟨b, off, none⟩ ∧ ∀ j, j < xs.length → w.cell? ⟨b, off + j, none⟩ = some (.int .i64 (xs.getD j 0))
theorem IsRow.below {w w' : World} {ao : Option Addr} {xs : List Int} (h : IsRow w ao xs) (hb : Below w.heap.size w w') : IsRow w' ao xs := by
 rcases h with h | ⟨b, off, rfl, hc⟩
 ·exact Or.inl h
 ·exact Or.inr ⟨b, off, rfl, fun j hj => by rw [hb.cell (World.block_lt_of_cell? w _ (hc j hj))]; exact hc j hj⟩
theorem FsRow.below {w w' : World} {ao : Option Addr} {xs : List Nat} (h : FsRow w ao xs) (hb : Below w.heap.size w w') : FsRow w' ao xs := by
 rcases h with h | ⟨b, off, rfl, hc⟩
 ·exact Or.inl h
 ·exact Or.inr ⟨b, off, rfl, fun j hj => by rw [hb.cell (World.block_lt_of_cell? w _ (hc j hj))]; exact hc j hj⟩
def I64s (xs : List Int) : Prop := ∀ x, x ∈ xs → -9223372036854775808 ≤ x ∧ x ≤ 9223372036854775807
theorem I64s.at {xs : List Int} (h : I64s xs) {k : Nat} (hk : k < xs.length) : -9223372036854775808 ≤ xs.getD k 0 ∧ xs.getD k 0 ≤ 9223372036854775807 := by
 have e : xs.getD k 0 = xs[k] := by simp [List.getD, hk]
 rw [e]
 exact h _ (List.getElem_mem hk)
def prA (xs : List Int) (k : Nat) : Int := if xs.length = 0 then 0 else xs.getD (k % xs.length) 0
theorem prA_in {xs : List Int} (h : I64s xs) (k : Nat) : -9223372036854775808 ≤ prA xs k ∧ prA xs k ≤ 9223372036854775807 := by
 unfold prA
 split
 ·omega
 ·exact h.at (Nat.mod_lt _ (by omega))
set_option maxHeartbeats 1000000 in
theorem spart_any (xs : List Int) (ao : Option Addr) (ac k : Nat) (w : World) (h : IsRow w ao xs) (hn : xs.length ≤ 1125899906842624) :
  Calls Tryz.prog 12 #[.slice ao xs.length ac, .int .i64 k] w fun e w' => e = .returned (.int .i64 (prA xs k)) ∧ w' = w := by
 have HP : Hid (prA xs k = if xs.length = 0 then 0 else xs.getD (k % xs.length) 0) := (show _ = _ from rfl)
 obtain ⟨N, hN⟩ : ∃ N, xs.length = N := ⟨_, rfl⟩
 rw [hN] at hn HP ⊢
 generalize prA xs k = pr at *
 by_cases h0 : N = 0
 ·subst h0
  go_enter Tryz.func12, Tryz.ntmps12
  go_wp2
  go_ret
  exact ⟨by rw [HP.out]; rfl, rfl⟩
 ·rcases h with h | ⟨b, off, rfl, hc⟩
  ·exact absurd (hN ▸ h) h0
  ·have hlt : k % N < xs.length := by rw [hN]; exact Nat.mod_lt _ (by omega)
   have g := hc _ hlt
   have et : ((k : Int).tmod (N : Int)) = ((k % N : Nat) : Int) := by rw [Int.tmod_eq_emod_of_nonneg (by omega)]; simp
   have c0 : ¬ (N : Int) = 0 := by omega
   have i1 : ((k % N : Nat) : Int) < (N : Int) := by have := hN ▸ hlt; omega
   have HP2 : Hid (pr = xs.getD (k % N) 0) := HP.out.trans (by rw [if_neg h0])
   clear HP
   generalize xs.getD (k % N) 0 = m at *
   generalize k % N = q at *
   clear hc hlt hN
   go_enter Tryz.func12, Tryz.ntmps12
   go_wp2
   go_ret
   exact ⟨by rw [HP2.out]; rfl, rfl⟩
def nmQ (x : Nat) : Nat := if nbB x then x else 4607182418800017408
theorem nmQ_ok (x : Nat) : nbB (nmQ x) = true := by
 unfold nmQ
 split
 ·assumption
 ·kernel_rfl
set_option maxHeartbeats 1000000 in
theorem sNumber_any (x : Nat) (hx : x < 18446744073709551616) (w : World) :
  Calls Tryz.prog 24 #[.float .f64 x] w fun e w' => e = .returned (.float .f64 (nmQ x)) ∧ w' = w := by
 have HQ : Hid (nmQ x = if nbB x then x else 4607182418800017408) := (show _ = _ from rfl)
 have HB : Hid (nbB x = (leF 4336966441157787648 x && leF x 4877398396442247168)) := (show _ = _ from rfl)
 have e0 := bge_le hx (c := 4336966441157787648) (by omega) (by decide)
 have e1 : (FloatKind.f64.format.order x 4336966441157787648 == some .gt || FloatKind.f64.format.order x 4336966441157787648 == some .eq) = geF x 4336966441157787648 := rfl
 have e2 : (FloatKind.f64.format.order x 4877398396442247168 == some .lt || FloatKind.f64.format.order x 4877398396442247168 == some .eq) = leF x 4877398396442247168 := rfl
 rw [e0] at e1
 clear e0
 generalize nmQ x = nx at *
 generalize nbB x = nb at *
 generalize leF 4336966441157787648 x = p at *
 generalize leF x 4877398396442247168 = q at *
 cases p
 ·go_enter Tryz.func24, Tryz.ntmps24
  go_wp2
  go_ret
  exact ⟨by rw [HQ.out, HB.out]; rfl, rfl⟩
 ·cases q
  ·go_enter Tryz.func24, Tryz.ntmps24
   go_wp2
   go_ret
   exact ⟨by rw [HQ.out, HB.out]; rfl, rfl⟩
  ·go_enter Tryz.func24, Tryz.ntmps24
   go_wp2
   go_ret
   exact ⟨by rw [HQ.out, HB.out]; rfl, rfl⟩
def F64s (xs : List Nat) : Prop := ∀ x, x ∈ xs → x < 18446744073709551616
theorem F64s.at {xs : List Nat} (h : F64s xs) {k : Nat} (hk : k < xs.length) : xs.getD k 0 < 18446744073709551616 := by
 have e : xs.getD k 0 = xs[k] := by simp [List.getD, hk]
 rw [e]
 exact h _ (List.getElem_mem hk)
def nuA (xs : List Nat) (k : Nat) : Nat := if xs.length = 0 then 4607182418800017408 else nmQ (xs.getD (k % xs.length) 0)
theorem nuA_ok (xs : List Nat) (k : Nat) : nbB (nuA xs k) = true := by
 unfold nuA
 split
 ·kernel_rfl
 ·exact nmQ_ok _
theorem nuA_lt {xs : List Nat} (h : F64s xs) (k : Nat) : nuA xs k < 18446744073709551616 := by
 unfold nuA
 split
 ·omega
 ·unfold nmQ
  split
  ·exact h.at (Nat.mod_lt _ (by omega))
  ·omega
set_option maxHeartbeats 1000000 in
theorem snum_any (xs : List Nat) (ao : Option Addr) (ac k : Nat) (w : World) (h : FsRow w ao xs) (hf : F64s xs) (hn : xs.length ≤ 1125899906842624) :
  Calls Tryz.prog 13 #[.slice ao xs.length ac, .int .i64 k] w fun e w' => e = .returned (.float .f64 (nuA xs k)) ∧ w' = w := by
 have HP : Hid (nuA xs k = if xs.length = 0 then 4607182418800017408 else nmQ (xs.getD (k % xs.length) 0)) := (show _ = _ from rfl)
 obtain ⟨N, hN⟩ : ∃ N, xs.length = N := ⟨_, rfl⟩
 rw [hN] at hn HP ⊢
 generalize nuA xs k = pr at *
 by_cases h0 : N = 0
 ·subst h0
  go_enter Tryz.func13, Tryz.ntmps13
  go_wp2
  go_ret
  exact ⟨by rw [HP.out]; rfl, rfl⟩
 ·rcases h with h | ⟨b, off, rfl, hc⟩
  ·exact absurd (hN ▸ h) h0
  ·have hlt : k % N < xs.length := by rw [hN]; exact Nat.mod_lt _ (by omega)
   have g := hc _ hlt
   have hb := hf.at hlt
   have et : ((k : Int).tmod (N : Int)) = ((k % N : Nat) : Int) := by rw [Int.tmod_eq_emod_of_nonneg (by omega)]; simp
   have c0 : ¬ (N : Int) = 0 := by omega
   have i1 : ((k % N : Nat) : Int) < (N : Int) := by have := hN ▸ hlt; omega
   have HP2 : Hid (pr = nmQ (xs.getD (k % N) 0)) := HP.out.trans (by rw [if_neg h0])
   clear HP
   generalize xs.getD (k % N) 0 = m at *
   generalize k % N = q at *
   clear hc hlt hN hf
   go_enter Tryz.func13, Tryz.ntmps13
   go_wp2_with (go_at_call 24; refine (sNumber_any m hb _).mono ?_; rintro e w1 ⟨rfl, rfl⟩)
   go_ret
   exact ⟨by rw [HP2.out]; rfl, rfl⟩
def pkA (x : Int) (c : Nat) : Nat := (x % (c : Int)).toNat
theorem pkA_lt (x : Int) {c : Nat} (h : 1 ≤ c) : pkA x c < c := by
 unfold pkA
 have h1 := Int.emod_nonneg x (show (c : Int) ≠ 0 by omega)
 have h2 := Int.emod_lt_of_pos x (show (0 : Int) < c by omega)
 omega
set_option maxHeartbeats 1000000 in
theorem spick_any (x : Int) (c : Nat) (h1 : 1 ≤ c) (h2 : c ≤ 1000000000) (w : World) : Calls Tryz.prog 7 #[.int .i64 x, .int .i64 c] w fun e w' => e = .returned (.int .i64 (pkA x c : Nat)) ∧ w' = w := by
 have b1 : x.tmod c < c := Int.tmod_lt_of_pos x (by omega)
 have b2 : -(c : Int) < x.tmod c := by
  have := Int.tmod_lt_of_pos (-x) (show (0 : Int) < c by omega)
  rw [Int.neg_tmod] at this
  omega
 have c0 : ¬ (c : Int) = 0 := by omega
 have HE : Hid (((pkA x c : Nat) : Int) = if x.tmod c < 0 then x.tmod c + c else x.tmod c) := (show _ = _ by
  have e : x.tmod c % (c : Int) = x % (c : Int) := by
   conv => rhs; rw [← Int.tmod_add_mul_tdiv x c]
   rw [Int.add_mul_emod_self_left]
  have m0 := Int.emod_nonneg x (show (c : Int) ≠ 0 by omega)
  have m1 := Int.emod_lt_of_pos x (show (0 : Int) < c by omega)
  unfold pkA
  rw [Int.toNat_of_nonneg m0]
  split
  ·rw [← Int.add_emod_right, Int.emod_eq_of_lt (by omega) (by omega)] at e
   exact e.symm
  ·rw [Int.emod_eq_of_lt (by omega) (by omega)] at e
   exact e.symm)
 generalize ((pkA x c : Nat) : Int) = pk at *
 by_cases h : x.tmod c < 0
 ·generalize hy : x.tmod c = y at *
  go_enter Tryz.func7, Tryz.ntmps7
  go_wp2
  go_ret
  exact ⟨by rw [HE.out, if_pos h]; rfl, rfl⟩
 ·generalize hy : x.tmod c = y at *
  go_enter Tryz.func7, Tryz.ntmps7
  go_wp2
  go_ret
  exact ⟨by rw [HE.out, if_neg (by omega)]; rfl, rfl⟩
def sN (l k : Nat) : ByteArray := ⟨#[UInt8.ofNat l, 48 + UInt8.ofNat k]⟩
theorem bytes2 (l m : Nat) (y z : Int) (hl : l < 256) (hm : m < 256) (hy : (l : Int) = y) (hz : (m : Int) = z) (w : World) : (convert 72 9 (.slice (some ⟨w.heap.size, 0, none⟩) 2 2)).run Tryz.prog (w.alloc (.cells #[.int .u8 y, .int .u8 z] 5)) = .ok (.string ⟨#[UInt8.ofNat l, UInt8.ofNat m]⟩) (w.alloc (.cells #[.int .u8 y, .int .u8 z] 5)) := by
 subst hy hz
 refine run_convert_bytes_back _ _ _ 5 _ 2 [UInt8.ofNat l, UInt8.ofNat m] Tryz.underlying72 Tryz.underlying5 Tryz.underlying9 (fun j hj => ?_)
 have hj2 : j < 2 := hj
 rcases (show j = 0 ∨ j = 1 by omega) with rfl | rfl
 all_goals simp [go_sem, Addr.add]
 all_goals omega
set_option maxRecDepth 100000 in
set_option maxHeartbeats 1000000 in
theorem sname_any (l k : Nat) (hl : l < 256) (hk : k < 10) (w : World) :
  Calls Tryz.prog 11 #[.int .u8 l, .int .i64 k] w fun e w' => e = .returned (.string (sN l k)) ∧ Below w.heap.size w w' := by
 have et : ((k : Int).tmod 10) = (k : Int) := by rw [Int.tmod_eq_emod_of_nonneg (by omega)]; omega
 have ew : IntKind.u8.wrap (48 + (k : Int)) = 48 + (k : Int) := by simp [IntKind.wrap, IntKind.bits, IntKind.signed]; omega
 have hcv := fun w' => bytes2 l (48 + k) l (48 + (k : Int)) hl (by omega) rfl (by omega) w'
 go_enter Tryz.func11, Tryz.ntmps11
 go_wp2
 go_ret
 exact ⟨rfl, (Below.refl _ _).alloc (Nat.le_refl _) _⟩
theorem skj_row {w : World} {base : Nat} {v : Value} {ps : List Jn} (h : w.ownsRow base 37 4 v ps.length (jnc ps)) : ∃ ao cap, v = .slice ao ps.length cap ∧ JRow w ao ps := by
 obtain ⟨h1, h2⟩ := h
 rcases h2 with ⟨rfl, hn⟩ | ⟨g, cap, cur, rfl, hg, hh, hc⟩
 ·exact ⟨none, 0, by rw [hn], Or.inl hn⟩
 ·refine ⟨some ⟨g, 0, none⟩, cap, rfl, Or.inr ⟨g, 0, rfl, fun j hj => ?_⟩⟩
  have own : w.ownsRow base 37 4 (.slice (some ⟨g, 0, none⟩) ps.length cap) ps.length (jnc ps) := ⟨h1, Or.inr ⟨g, cap, cur, rfl, hg, hh, hc⟩⟩
  have e0 := own.cellAt (j * 4) (by omega)
  have e1 := own.cellAt (j * 4 + 1) (by omega)
  have e2 := own.cellAt (j * 4 + 2) (by omega)
  have e3 := own.cellAt (j * 4 + 3) (by omega)
  have hs := jnc_at ps j hj
  rw [Nat.zero_add]
  exact ⟨e0.trans hs.1, e1.trans hs.2.1, e2.trans hs.2.2.1, e3.trans hs.2.2.2⟩
theorem skm_row {w : World} {base : Nat} {v : Value} {ps : List Mb} (h : w.ownsRow base 45 9 v ps.length (mnc ps)) : ∃ ao cap, v = .slice ao ps.length cap ∧ MRow w ao ps := by
 obtain ⟨h1, h2⟩ := h
 rcases h2 with ⟨rfl, hn⟩ | ⟨g, cap, cur, rfl, hg, hh, hc⟩
 ·exact ⟨none, 0, by rw [hn], Or.inl hn⟩
 ·refine ⟨some ⟨g, 0, none⟩, cap, rfl, Or.inr ⟨g, 0, rfl, fun j hj => ?_⟩⟩
  have own : w.ownsRow base 45 9 (.slice (some ⟨g, 0, none⟩) ps.length cap) ps.length (mnc ps) := ⟨h1, Or.inr ⟨g, cap, cur, rfl, hg, hh, hc⟩⟩
  have e0 := own.cellAt (j * 9) (by omega)
  have e1 := own.cellAt (j * 9 + 1) (by omega)
  have e2 := own.cellAt (j * 9 + 2) (by omega)
  have e3 := own.cellAt (j * 9 + 3) (by omega)
  have e4 := own.cellAt (j * 9 + 4) (by omega)
  have e5 := own.cellAt (j * 9 + 5) (by omega)
  have e6 := own.cellAt (j * 9 + 6) (by omega)
  have e7 := own.cellAt (j * 9 + 7) (by omega)
  have e8 := own.cellAt (j * 9 + 8) (by omega)
  obtain ⟨s0, s1, s2, s3, s4, s5, s6, s7, s8⟩ := mnc_at ps j hj
  rw [Nat.zero_add]
  exact ⟨e0.trans s0, e1.trans s1, e2.trans s2, e3.trans s3, e4.trans s4, e5.trans s5, e6.trans s6, e7.trans s7, e8.trans s8⟩
theorem sk_appj {w : World} {base : Nat} {v : Value} {ps : List Jn} (h : w.ownsRow base 37 4 v ps.length (jnc ps)) (hb : base ≤ w.heap.size) (p : Jn) (hn : ps.length ≤ 1000) : ∃ v' w1,
  ((Builtin.append_ #[26, 26] 26 #[v, .slice (some ⟨w.heap.size, 0, none⟩) 1 1]).run Tryz.prog (w.alloc (.cells #[.string p.1, .int .i32 p.2.1, .int .i32 p.2.2.1, .int .u8 p.2.2.2] 37)) = .ok v' w1) ∧
  w1.ownsRow base 37 4 v' (ps ++ [p]).length (jnc (ps ++ [p])) ∧ Below base w w1 := by
 obtain ⟨i0, hi, hz0, hz1, hz2⟩ := info_span Tryz.infoJ
 have hall := run_append_own_at (P := Tryz.prog) (w.alloc (.cells #[.string p.1, .int .i32 p.2.1, .int .i32 p.2.2.1, .int .u8 p.2.2.2] 37)) base 26 26 37 i0 (.agg #[.string ByteArray.empty, .int .i32 0, .int .i32 0, .int .u8 0]) 4 32 Tryz.underlying26 hi hz0 hz1 hz2 rfl (by decide) v ps.length (jnc ps) (h.alloc _) ⟨w.heap.size, 0, none⟩ 1 1 [.string p.1, .int .i32 p.2.1, .int .i32 p.2.2.1, .int .u8 p.2.2.2] rfl (World.news_of_block (cs := #[.string p.1, .int .i32 p.2.1, .int .i32 p.2.2.1, .int .u8 p.2.2.2]) (t := 37) (fr := (0, 0)) (heap_alloc_new _ _)) (by simp [Value.oneCell']) (by unfold maxLen; omega) (by omega) (by simp; omega)
 obtain ⟨v', w1, hr, h2, h3, _, _⟩ := hall
 refine ⟨v', w1, hr, ?_, ((Below.refl base w).alloc hb _).grown h3 (by simp; omega) (fun k hk => (h.lt k hk).1)⟩
 rw [List.length_append, jnc_app]
 exact h2
theorem sk_appm {w : World} {base : Nat} {v : Value} {ps : List Mb} (h : w.ownsRow base 45 9 v ps.length (mnc ps)) (hb : base ≤ w.heap.size) (p : Mb) (hn : ps.length ≤ 1000) : ∃ v' w1,
  ((Builtin.append_ #[27, 27] 27 #[v, .slice (some ⟨w.heap.size, 0, none⟩) 1 1]).run Tryz.prog (w.alloc (mO p 45)) = .ok v' w1) ∧
  w1.ownsRow base 45 9 v' (ps ++ [p]).length (mnc (ps ++ [p])) ∧ Below base w w1 := by
 obtain ⟨i0, hi, hz0, hz1, hz2⟩ := info_span Tryz.infoM
 have hall := run_append_own_at (P := Tryz.prog) (w.alloc (mO p 45)) base 27 27 45 i0 (.agg #[.string ByteArray.empty, .int .u8 0, .int .i64 0, .int .i64 0, .bool false, .bool false, .float .f64 0, .float .f64 0, .float .f64 0]) 9 72 Tryz.underlying27 hi hz0 hz1 hz2 rfl (by decide) v ps.length (mnc ps) (h.alloc _) ⟨w.heap.size, 0, none⟩ 1 1 [.string p.nm, .int .u8 p.kd, .int .i64 p.a, .int .i64 p.b, .bool p.ha, .bool p.hb, .float .f64 p.e, .float .f64 p.ar, .float .f64 p.i] rfl (World.news_of_block (cs := #[.string p.nm, .int .u8 p.kd, .int .i64 p.a, .int .i64 p.b, .bool p.ha, .bool p.hb, .float .f64 p.e, .float .f64 p.ar, .float .f64 p.i]) (t := 45) (fr := (0, 0)) (heap_alloc_new _ _)) (by simp [Value.oneCell']) (by unfold maxLen; omega) (by omega) (by simp; omega)
 obtain ⟨v', w1, hr, h2, h3, _, _⟩ := hall
 refine ⟨v', w1, hr, ?_, ((Below.refl base w).alloc hb _).grown h3 (by simp; omega) (fun k hk => (h.lt k hk).1)⟩
 rw [List.length_append, mnc_app]
 exact h2
theorem skapp_eq {ops : Array Oper} {rest : List Oper} {o : Oper} {a : Act} {Q : Exit → Act → World → Prop} {w w' : World} {t ty : TypeId} {v u v' : Value} (hr : (Builtin.append_ #[t, t] ty #[v, u]).run Tryz.prog w = .ok v' w') (hgd : o.guard = none) (s x : Operand)
  (ho : o.op = .call { callee := .builtin .append, args := #[s, x], argTypes := #[t, t] }) (hty : o.type = ty) (hs : a.eval s = v) (hx : a.eval x = u) (h : wpList Tryz.prog ops Q rest (a.put o.dst v') w') : wpList Tryz.prog ops Q (o :: rest) a w := by
 subst hty
 refine wpList_plain hgd fun K hK => ?_
 unfold Oper.wp execOp
 simp only [ho, resolve, invoke, builtin, Sem.run_bind, Sem.run_pure, Result.andThen_ok, List.map_toArray, List.map_cons, List.map_nil, hs, hx, hr]
 exact hK _ _ h
def SkJ (js : List Jn) : Prop := ∀ k, k < js.length → ∃ (x y : Int) (f : Nat), js.getD k jz = (sN 106 k, x, y, f) ∧ ((-8 ≤ x ∧ x ≤ 8) ∨ x = 20 + 3 * (k : Int)) ∧ (-8 ≤ y ∧ y ≤ 8) ∧ f < 8 ∧ ∀ q, q < k → ¬ ((js.getD q jz).2.1 = x ∧ (js.getD q jz).2.2.1 = y)
theorem jgetD_snoc {js : List Jn} {p : Jn} {k : Nat} : (js ++ [p]).getD k jz = if k < js.length then js.getD k jz else if k = js.length then p else jz := by
 by_cases h : k < js.length
 ·rw [if_pos h, List.getD_eq_getElem?_getD, List.getElem?_append_left h, ← List.getD_eq_getElem?_getD]
 ·rw [if_neg h, List.getD_eq_getElem?_getD, List.getElem?_append_right (by omega)]
  by_cases e : k = js.length
  ·rw [if_pos e, e]; simp
  ·rw [if_neg e]
   simp [show k - js.length ≠ 0 by omega]
theorem SkJ.snoc {js : List Jn} (h : SkJ js) {x y : Int} {f : Nat} (hx : (-8 ≤ x ∧ x ≤ 8) ∨ x = 20 + 3 * (js.length : Int)) (hy : -8 ≤ y ∧ y ≤ 8) (hf : f < 8) (hd : ∀ q, q < js.length → ¬ ((js.getD q jz).2.1 = x ∧ (js.getD q jz).2.2.1 = y)) : SkJ (js ++ [(sN 106 js.length, x, y, f)]) := fun k hk => by
 rw [List.length_append, List.length_singleton] at hk
 rcases Nat.lt_or_ge k js.length with hl | hg
 ·obtain ⟨x', y', f', e, a, b, c, d⟩ := h k hl
  refine ⟨x', y', f', by rw [jgetD_snoc, if_pos hl, e], a, b, c, fun q hq => ?_⟩
  rw [jgetD_snoc, if_pos (by omega)]
  exact d q hq
 ·obtain rfl : k = js.length := by omega
  refine ⟨x, y, f, by rw [jgetD_snoc, if_neg (by omega), if_pos rfl], hx, hy, hf, fun q hq => ?_⟩
  rw [jgetD_snoc, if_pos hq]
  exact hd q hq
def SkM (n : Nat) (ms : List Mb) : Prop := ∀ k, k < ms.length → ∃ m : Mb, ms.getD k mz = m ∧ m.nm = sN 109 k ∧ (0 ≤ m.a ∧ m.a < n) ∧ (0 ≤ m.b ∧ m.b < n) ∧ m.a ≠ m.b ∧ nbB m.e = true ∧ nbB m.ar = true ∧ ((m.kd = 1 ∧ m.ha = false ∧ m.hb = false ∧ m.i = 0) ∨ (m.kd = 2 ∧ nbB m.i = true)) ∧ MW m
theorem sk_mw {k kd a b e ar i : Nat} {ha hb : Bool} (hk : kd < 256) (h1 : a < 1000) (h2 : b < 1000) (he : e < 18446744073709551616) (har : ar < 18446744073709551616) (hi : i < 18446744073709551616) : MW ⟨sN 109 k, kd, (a : Nat), (b : Nat), ha, hb, e, ar, i⟩ :=
 ⟨by show (2 : Nat) ≤ maxLen; unfold maxLen; omega, hk, by show _ ≤ ((a : Nat) : Int); omega, by show ((a : Nat) : Int) ≤ _; omega, by show _ ≤ ((b : Nat) : Int); omega, by show ((b : Nat) : Int) ≤ _; omega, he, har, hi⟩
theorem mgetD_snoc {js : List Mb} {p : Mb} {k : Nat} : (js ++ [p]).getD k mz = if k < js.length then js.getD k mz else if k = js.length then p else mz := by
 by_cases h : k < js.length
 ·rw [if_pos h, List.getD_eq_getElem?_getD, List.getElem?_append_left h, ← List.getD_eq_getElem?_getD]
 ·rw [if_neg h, List.getD_eq_getElem?_getD, List.getElem?_append_right (by omega)]
  by_cases e : k = js.length
  ·rw [if_pos e, e]; simp
  ·rw [if_neg e]
   simp [show k - js.length ≠ 0 by omega]
theorem SkM.snoc {n : Nat} {ms : List Mb} (h : SkM n ms) {m : Mb} (h0 : m.nm = sN 109 ms.length) (h1 : 0 ≤ m.a ∧ m.a < n) (h2 : 0 ≤ m.b ∧ m.b < n) (h3 : m.a ≠ m.b) (h4 : nbB m.e = true) (h5 : nbB m.ar = true) (h6 : (m.kd = 1 ∧ m.ha = false ∧ m.hb = false ∧ m.i = 0) ∨ (m.kd = 2 ∧ nbB m.i = true)) (h7 : MW m) : SkM n (ms ++ [m]) := fun k hk => by
 rw [List.length_append, List.length_singleton] at hk
 rcases Nat.lt_or_ge k ms.length with hl | hg
 ·obtain ⟨m', e, r⟩ := h k hl
  exact ⟨m', by rw [mgetD_snoc, if_pos hl, e], r⟩
 ·obtain rfl : k = ms.length := by omega
  exact ⟨m, by rw [mgetD_snoc, if_neg (by omega), if_pos rfl], h0, h1, h2, h3, h4, h5, h6, h7⟩
theorem sN_ne : ∀ l : Fin 2, ∀ i : Fin 10, ∀ q : Fin 10, i ≠ q → sN (106 + 3 * l.val) i.val ≠ sN (106 + 3 * l.val) q.val := by decide
theorem sN_nm : ∀ l : Fin 2, ∀ i : Fin 10, nmB (sN (106 + 3 * l.val) i.val) = true := by decide
theorem jtake_mem {js : List Jn} {i : Nat} {j : Jn} (hj : j ∈ js.take i) : ∃ q, q < i ∧ q < js.length ∧ js.getD q jz = j := by
 obtain ⟨q, hq, rfl⟩ := List.getElem_of_mem hj
 rw [List.length_take] at hq
 refine ⟨q, by omega, by omega, ?_⟩
 rw [jgetD_at (by omega), List.getElem_take]
theorem mtake_mem {js : List Mb} {i : Nat} {j : Mb} (hj : j ∈ js.take i) : ∃ q, q < i ∧ q < js.length ∧ js.getD q mz = j := by
 obtain ⟨q, hq, rfl⟩ := List.getElem_of_mem hj
 rw [List.length_take] at hq
 refine ⟨q, by omega, by omega, ?_⟩
 rw [mgetD_at (by omega), List.getElem_take]
theorem sk_ck {js : List Jn} (h : SkJ js) (hn : js.length ≤ 4) : ckA js = (0, 0) := ck_ok (by omega) fun i hi => by
 obtain ⟨x, y, f, e, hx, hy, hf, hd⟩ := h i hi
 unfold fB
 rw [e]
 simp only
 have h1 : hsN (js.take i) (sN 106 i) = false := by
  unfold hsN
  rw [List.any_eq_false]
  intro j hj
  obtain ⟨q, q1, q2, rfl⟩ := jtake_mem hj
  obtain ⟨x', y', f', e', _⟩ := h q q2
  rw [e']
  simp only [decide_eq_true_eq]
  exact sN_ne 0 ⟨q, by omega⟩ ⟨i, by omega⟩ (by simp; omega)
 have h2 : hsP (js.take i) x y = false := by
  unfold hsP
  rw [List.any_eq_false]
  intro j hj
  obtain ⟨q, q1, q2, rfl⟩ := jtake_mem hj
  simpa using hd q q1
 have h3 : myB (sN 106 i, x, y, f) = true := by
  unfold myB
  have := sN_nm 0 ⟨i, by omega⟩
  simp only [Fin.val_zero, Nat.mul_zero, Nat.add_zero] at this
  simp [this, crB]
  omega
 rw [h1, h2, h3]
 rfl
theorem sk_cm {n : Nat} {ms : List Mb} (h : SkM n ms) (hn : ms.length ≤ 6) : cmA n ms = (0, 0) := cm_ok (by omega) fun i hi => by
 obtain ⟨m, e, h0, h1, h2, h3, h4, h5, h6, _⟩ := h i hi
 unfold fM
 rw [e, h0]
 have g1 : hsM (ms.take i) (sN 109 i) = false := by
  unfold hsM
  rw [List.any_eq_false]
  intro j hj
  obtain ⟨q, q1, q2, rfl⟩ := mtake_mem hj
  obtain ⟨m', e', h0', _⟩ := h q q2
  rw [e', h0']
  simp only [decide_eq_true_eq]
  exact sN_ne 1 ⟨q, by omega⟩ ⟨i, by omega⟩ (by simp; omega)
 have g2 : mmB n m = true := by
  unfold mmB
  have := sN_nm 1 ⟨i, by omega⟩
  have g3 : nmB m.nm = true := by rw [h0]; exact this
  have g4 : ldB m.a m.b n = true := by
   unfold ldB
   simp [h1, h2, h3]
  have g5 : kdB m = true := by
   unfold kdB
   rcases h6 with ⟨k, a, b, c⟩ | ⟨k, a⟩
   ·rw [if_pos k, a, b, c]; rfl
   ·rw [if_neg (by omega), if_pos k]; exact a
  rw [g3, g4, h4, h5, g5]
  rfl
 rw [g1, g2]
 rfl
theorem sk_cp {js : List Jn} {ms : List Mb} (h : SkJ js) (hn : js.length ≤ 4) (g : SkM js.length ms) (gn : ms.length ≤ 6) : cpA js ms = (0, 0) := by
 unfold cpA
 rw [sk_ck h hn, if_pos rfl, sk_cm g gn]
set_option maxHeartbeats 1000000 in
theorem skcopyJ_any (js : List Jn) (ao : Option Addr) (cap : Nat) (w : World) (hr : JRow w ao js) (h0 : js.length ≠ 0) (hn : js.length ≤ 16) :
  Calls Tryz.prog 17 #[.slice ao js.length cap] w fun e w' => ∃ v, e = .returned v ∧ w'.ownsRow w.heap.size 37 4 v js.length (jnc js) ∧ Below w.heap.size w w' := by
 obtain ⟨i0, hi, hz0, hz1, hz2⟩ := info_span Tryz.infoJ
 rcases hr with h | ⟨b, off, rfl, hc⟩
 ·exact absurd h h0
 have hO : w.ownsRow w.heap.size 37 4 (.slice none 0 0) 0 [] := World.ownsRow_nil _ _ _ _
 have hnews : ∀ j u, (jnc js)[j]? = some u → w.cell? ((⟨b, off, none⟩ : Addr).add j) = some u := fun j u hu => by
  have hj : j < js.length * 4 := by
   have := (List.getElem?_eq_some_iff.1 hu).1
   rw [jnc_len] at this; exact this
  have hadd : (⟨b, off, none⟩ : Addr).add j = ⟨b, off + j, none⟩ := by
   unfold Addr.add
   split
   ·rename_i h; subst h; rfl
   ·rfl
  rw [hadd]
  have g := hc (j / 4) (by omega)
  have s := jnc_at js (j / 4) (by omega)
  rcases (show j = j / 4 * 4 ∨ j = j / 4 * 4 + 1 ∨ j = j / 4 * 4 + 2 ∨ j = j / 4 * 4 + 3 by omega) with q | q | q | q
  ·rw [← q] at g s
   rw [s.1] at hu; cases hu; exact g.1
  ·rw [Nat.add_assoc off _ 1, ← q] at g
   rw [← q] at s
   rw [s.2.1] at hu; cases hu; exact g.2.1
  ·rw [Nat.add_assoc off _ 2, ← q] at g
   rw [← q] at s
   rw [s.2.2.1] at hu; cases hu; exact g.2.2.1
  ·rw [Nat.add_assoc off _ 3, ← q] at g
   rw [← q] at s
   rw [s.2.2.2] at hu; cases hu; exact g.2.2.2
 clear hc
 go_enter Tryz.func17, Tryz.ntmps17
 go_wp2_with (at_builtin; refine wpList_append_own _ rfl _ _ 26 rfl w.heap.size 37 i0 (.agg #[.string ByteArray.empty, .int .i32 0, .int .i32 0, .int .u8 0]) 4 32 Tryz.underlying26 hi hz0 hz1 hz2 rfl (by decide) _ _ _ rfl hO ⟨b, off, none⟩ js.length cap (jnc js) rfl (by rw [jnc_len]) hnews (jnc_one js) (by unfold maxLen; omega) (by omega) (Nat.le_refl _) ?_; intro v' w1 hown1 hgrow _)
 have hb2 : Below w.heap.size w w1 := (Below.refl _ _).grown hgrow (Nat.le_refl _) (fun k hk => by cases hk)
 rw [Nat.zero_add, List.nil_append] at hown1
 go_wp2
 exact bodyPost_ret (v := v') (by simp [results, Tryz.results17, go_sem]) rfl ⟨v', rfl, hown1, hb2⟩
set_option maxHeartbeats 1000000 in
theorem skcopyM_any (ps : List Mb) (ao : Option Addr) (cap : Nat) (w : World) (hr : MRow w ao ps) (hn : ps.length ≤ 48) (hs : ps.length = 0 → ao = none ∧ cap = 0) :
  Calls Tryz.prog 18 #[.slice ao ps.length cap] w fun e w' => ∃ v, e = .returned v ∧ w'.ownsRow w.heap.size 45 9 v ps.length (mnc ps) ∧ Below w.heap.size w w' := by
 obtain ⟨i0, hi, hz0, hz1, hz2⟩ := info_span Tryz.infoM
 have hO : w.ownsRow w.heap.size 45 9 (.slice none 0 0) 0 [] := World.ownsRow_nil _ _ _ _
 rcases hr with h | ⟨b, off, rfl, hc⟩
 ·obtain ⟨rfl, rfl⟩ := hs h
  obtain rfl := List.eq_nil_of_length_eq_zero h
  go_enter Tryz.func18, Tryz.ntmps18
  go_wp2
  exact bodyPost_ret (v := .slice none 0 0) (by simp [results, Tryz.results18, go_sem]) rfl ⟨_, rfl, hO, Below.refl _ _⟩
 have hnews : ∀ j u, (mnc ps)[j]? = some u → w.cell? ((⟨b, off, none⟩ : Addr).add j) = some u := fun j u hu => by
  have hj : j < ps.length * 9 := by
   have := (List.getElem?_eq_some_iff.1 hu).1
   rw [mnc_len] at this; exact this
  have hadd : (⟨b, off, none⟩ : Addr).add j = ⟨b, off + j, none⟩ := by
   unfold Addr.add
   split
   ·rename_i h; subst h; rfl
   ·rfl
  rw [hadd]
  have g := hc (j / 9) (by omega)
  obtain ⟨s0, s1, s2, s3, s4, s5, s6, s7, s8⟩ := mnc_at ps (j / 9) (by omega)
  obtain ⟨g0, g1, g2, g3, g4, g5, g6, g7, g8⟩ := g
  rcases (show j = j / 9 * 9 ∨ j = j / 9 * 9 + 1 ∨ j = j / 9 * 9 + 2 ∨ j = j / 9 * 9 + 3 ∨ j = j / 9 * 9 + 4 ∨ j = j / 9 * 9 + 5 ∨ j = j / 9 * 9 + 6 ∨ j = j / 9 * 9 + 7 ∨ j = j / 9 * 9 + 8 by omega) with q | q | q | q | q | q | q | q | q
  ·rw [← q] at g0
   rw [← q] at s0
   rw [s0] at hu; cases hu; exact g0
  ·rw [Nat.add_assoc off _ 1, ← q] at g1
   rw [← q] at s1
   rw [s1] at hu; cases hu; exact g1
  ·rw [Nat.add_assoc off _ 2, ← q] at g2
   rw [← q] at s2
   rw [s2] at hu; cases hu; exact g2
  ·rw [Nat.add_assoc off _ 3, ← q] at g3
   rw [← q] at s3
   rw [s3] at hu; cases hu; exact g3
  ·rw [Nat.add_assoc off _ 4, ← q] at g4
   rw [← q] at s4
   rw [s4] at hu; cases hu; exact g4
  ·rw [Nat.add_assoc off _ 5, ← q] at g5
   rw [← q] at s5
   rw [s5] at hu; cases hu; exact g5
  ·rw [Nat.add_assoc off _ 6, ← q] at g6
   rw [← q] at s6
   rw [s6] at hu; cases hu; exact g6
  ·rw [Nat.add_assoc off _ 7, ← q] at g7
   rw [← q] at s7
   rw [s7] at hu; cases hu; exact g7
  ·rw [Nat.add_assoc off _ 8, ← q] at g8
   rw [← q] at s8
   rw [s8] at hu; cases hu; exact g8
 clear hc
 go_enter Tryz.func18, Tryz.ntmps18
 go_wp2_with (at_builtin; refine wpList_append_own _ rfl _ _ 27 rfl w.heap.size 45 i0 (.agg #[.string ByteArray.empty, .int .u8 0, .int .i64 0, .int .i64 0, .bool false, .bool false, .float .f64 0, .float .f64 0, .float .f64 0]) 9 72 Tryz.underlying27 hi hz0 hz1 hz2 rfl (by decide) _ _ _ rfl hO ⟨b, off, none⟩ ps.length cap (mnc ps) rfl (by rw [mnc_len]) hnews (mnc_one ps) (by unfold maxLen; omega) (by omega) (Nat.le_refl _) ?_; intro v' w1 hown1 hgrow _)
 have hb2 : Below w.heap.size w w1 := (Below.refl _ _).grown hgrow (Nat.le_refl _) (fun k hk => by cases hk)
 rw [Nat.zero_add, List.nil_append] at hown1
 go_wp2
 exact bodyPost_ret (v := v') (by simp [results, Tryz.results18, go_sem]) rfl ⟨v', rfl, hown1, hb2⟩
theorem skj_rowN {w : World} {base n : Nat} {v : Value} {ps : List Jn} (h : w.ownsRow base 37 4 v n (jnc ps)) (hl : ps.length = n) : ∃ ao cap, v = .slice ao n cap ∧ JRow w ao ps := by
 subst hl; exact skj_row h
theorem skm_rowN {w : World} {base n : Nat} {v : Value} {ps : List Mb} (h : w.ownsRow base 45 9 v n (mnc ps)) (hl : ps.length = n) : ∃ ao cap, v = .slice ao n cap ∧ MRow w ao ps := by
 subst hl; exact skm_row h
def CpT (w : World) (js : List Jn) (ms : List Mb) (e : Ending) (w' : World) : Prop := ∃ jv mv, e = .returned (.agg #[jv, mv]) ∧ w'.ownsRow w.heap.size 37 4 jv js.length (jnc js) ∧ w'.ownsRow w.heap.size 45 9 mv ms.length (mnc ms) ∧ (∀ a, jv.ownBlock = some a → mv.ownBlock = some a → False) ∧ Below w.heap.size w w'
set_option maxRecDepth 100000 in
set_option maxHeartbeats 4000000 in
theorem skcopy_any (js : List Jn) (ms : List Mb) (ao mo : Option Addr) (ac mc : Nat) (w : World) (hr : JRow w ao js) (h0 : js.length ≠ 0) (hn : js.length ≤ 16) (mr : MRow w mo ms) (mn : ms.length ≤ 48) (hs : ms.length = 0 → mo = none ∧ mc = 0) :
  Calls Tryz.prog 6 #[.agg #[.slice ao js.length ac, .slice mo ms.length mc]] w (CpT w js ms) := by
 have cJ := fun w' (hb : Below w.heap.size w w') => skcopyJ_any js ao ac w' (hr.below hb) h0 hn
 have cM := fun w' (hb : Below w.heap.size w w') => skcopyM_any ms mo mc w' (mr.below hb) mn hs
 have PB := (PBox.new w (.slice ao js.length ac) (.slice mo ms.length mc) 29).alloc (.cells #[.slice none 0 0, .slice none 0 0] 29)
 have RB := PBox.new (w.alloc (.cells #[.slice ao js.length ac, .slice mo ms.length mc] 29)) (.slice none 0 0) (.slice none 0 0) 29
 have hs1 : (w.alloc (.cells #[.slice ao js.length ac, .slice mo ms.length mc] 29)).heap.size = w.heap.size + 1 := by simp
 rw [hs1] at RB
 have b0 := ((Below.refl w.heap.size w).alloc (Nat.le_refl _) (.cells #[.slice ao js.length ac, .slice mo ms.length mc] 29)).alloc (by simp) (.cells #[.slice none 0 0, .slice none 0 0] 29)
 have hz : ((w.alloc (.cells #[.slice ao js.length ac, .slice mo ms.length mc] 29)).alloc (.cells #[.slice none 0 0, .slice none 0 0] 29)).heap.size = w.heap.size + 1 + 1 := by simp
 clear hs1 hr mr
 obtain ⟨A, hA⟩ : ∃ A, js.length = A := ⟨_, rfl⟩
 obtain ⟨N, hN⟩ : ∃ N, ms.length = N := ⟨_, rfl⟩
 have HA : Hid (js.length = A) := hA
 have HN : Hid (ms.length = N) := hN
 rw [hA] at cJ PB RB b0 hz ⊢
 rw [hN] at cM PB RB b0 hz ⊢
 clear hA hN h0 hs hn mn
 go_enter Tryz.func6, Tryz.ntmps6
 go_upto_region 1 with fail
 generalize (w.alloc (.cells #[.slice ao A ac, .slice mo N mc] 29)).alloc (.cells #[.slice none 0 0, .slice none 0 0] 29) = W at *
 obtain ⟨o0, o1, f0, f1, ol⟩ := id PB
 go_upto_region 2 with (go_at_call 17; refine (cJ _ b0).mono ?_; rintro e w1 ⟨jv, rfl, hO, b1⟩; obtain ⟨ja, jc, rfl, _⟩ := skj_rowN hO HA.out; have PB1 := PB.below b1; clear o0 o1 f0 f1 ol; obtain ⟨o0, o1, f0, f1, ol⟩ := id PB1)
 have hO1 := ownsRow_setCell_below hO (show (⟨w.heap.size, 0, none⟩ : Addr).block < W.heap.size by simp only; omega) (.slice ja A jc)
 replace PB1 := PB1.set0 (.slice ja A jc)
 have RB1 := (RB.below b1).far (show w.heap.size + 1 ≠ w.heap.size by omega) (i := 0) (.slice ja A jc)
 have bw1 := (b0.trans (b1.mono b0.size)).setCell (p := ⟨w.heap.size, 0, none⟩) (Nat.le_refl _) (.slice ja A jc)
 have hz1 : W.heap.size ≤ (w1.setCell ⟨w.heap.size, 0, none⟩ (.slice ja A jc)).heap.size := by have := b1.size; simpa [World.setCell] using this
 clear hO b1 PB RB o0 o1 f0 f1 ol b0
 generalize w1.setCell ⟨w.heap.size, 0, none⟩ (.slice ja A jc) = Wb at *
 obtain ⟨o0, o1, f0, f1, ol⟩ := id PB1
 go_upto_region 3 with (go_at_call 18; refine (cM _ bw1).mono ?_; rintro e w3 ⟨mv, rfl, hM, b3⟩; obtain ⟨ma, mc2, rfl, _⟩ := skm_rowN hM HN.out; have PB3 := PB1.below b3; clear o0 o1 f0 f1 ol; obtain ⟨o0, o1, f0, f1, ol⟩ := id PB3)
 have hap : ∀ a, (Value.slice ja A jc).ownBlock = some a → (Value.slice ma N mc2).ownBlock = some a → False := fun a p q => by
  have h1 := (hO1.lt a p).2
  have h2 := (hM.lt a q).1
  omega
 have hM1 := ownsRow_setCell_below hM (show (⟨w.heap.size, 1, none⟩ : Addr).block < Wb.heap.size by simp only; omega) (.slice ma N mc2)
 have hJ1 := ownsRow_setCell_below (jrown_below hO1 b3) (show (⟨w.heap.size, 1, none⟩ : Addr).block < W.heap.size by simp only; omega) (.slice ma N mc2)
 replace PB3 := PB3.set1 (.slice ma N mc2)
 have RB3 := (RB1.below b3).far (show w.heap.size + 1 ≠ w.heap.size by omega) (i := 1) (.slice ma N mc2)
 have bw3 := (bw1.trans (b3.mono bw1.size)).setCell (p := ⟨w.heap.size, 1, none⟩) (Nat.le_refl _) (.slice ma N mc2)
 clear hM hO1 b3 PB1 RB1 o0 o1 f0 f1 ol
 generalize w3.setCell ⟨w.heap.size, 1, none⟩ (.slice ma N mc2) = Wc at *
 obtain ⟨o0, o1, f0, f1, ol⟩ := id PB3
 obtain ⟨r0, r1, q0, q1, rl⟩ := id RB3
 have hM2 := jrown_base (ownsRow_setCell_below (ownsRow_setCell_below hM1 (show (⟨w.heap.size + 1, 0, none⟩ : Addr).block < Wb.heap.size by simp only; omega) (.slice ja A jc)) (show (⟨w.heap.size + 1, 1, none⟩ : Addr).block < Wb.heap.size by simp only; omega) (.slice ma N mc2)) (by omega : w.heap.size ≤ Wb.heap.size)
 have hJ2 := jrown_base (ownsRow_setCell_below (ownsRow_setCell_below hJ1 (show (⟨w.heap.size + 1, 0, none⟩ : Addr).block < W.heap.size by simp only; omega) (.slice ja A jc)) (show (⟨w.heap.size + 1, 1, none⟩ : Addr).block < W.heap.size by simp only; omega) (.slice ma N mc2)) (by omega : w.heap.size ≤ W.heap.size)
 have hfin := (bw3.setCell (p := ⟨w.heap.size + 1, 0, none⟩) (Nat.le_succ _) (.slice ja A jc)).setCell (p := ⟨w.heap.size + 1, 1, none⟩) (Nat.le_succ _) (.slice ma N mc2)
 clear hM1 hJ1 cJ cM
 go_wp2
 exact bodyPost_ret (v := .agg #[.slice ja A jc, .slice ma N mc2]) (by simp [results, Tryz.results6, go_sem, r0, r1]) rfl ⟨_, _, rfl, by rw [HA.out]; exact hJ2, by rw [HN.out]; exact hM2, hap, hfin⟩
structure JC (w : World) (g J : Nat) (f : Nat → Jn) : Prop where
 c : ∀ k, k < J → w.cell? ⟨g, k * 4, none⟩ = some (.string (f k).1) ∧ w.cell? ⟨g, k * 4 + 1, none⟩ = some (.int .i32 (f k).2.1) ∧ w.cell? ⟨g, k * 4 + 2, none⟩ = some (.int .i32 (f k).2.2.1) ∧ w.cell? ⟨g, k * 4 + 3, none⟩ = some (.int .u8 (f k).2.2.2)
 z : ∀ q, w.frozen? ⟨g, q, none⟩ = false
 lt : g < w.heap.size
theorem jc_of {w : World} {base J : Nat} {v : Value} {js : List Jn} (h : w.ownsRow base 37 4 v J (jnc js)) (hl : js.length = J) (h0 : 0 < J) : ∃ g cap, v = .slice (some ⟨g, 0, none⟩) J cap ∧ base ≤ g ∧ JC w g J (fun k => js.getD k jz) := by
 obtain ⟨h1, h2⟩ := h
 rcases h2 with ⟨rfl, hn⟩ | ⟨g, cap, cur, rfl, hg, hh, hc⟩
 ·omega
 ·have own : w.ownsRow base 37 4 (.slice (some ⟨g, 0, none⟩) J cap) J (jnc js) := ⟨h1, Or.inr ⟨g, cap, cur, rfl, hg, hh, hc⟩⟩
  refine ⟨g, cap, rfl, hg, ⟨fun j hj => ?_, fun q => own.frozenAt q, (own.lt g rfl).2⟩⟩
  have e0 := own.cellAt (j * 4) (by omega)
  have e1 := own.cellAt (j * 4 + 1) (by omega)
  have e2 := own.cellAt (j * 4 + 2) (by omega)
  have e3 := own.cellAt (j * 4 + 3) (by omega)
  have hs := jnc_at js j (by omega)
  exact ⟨e0.trans hs.1, e1.trans hs.2.1, e2.trans hs.2.2.1, e3.trans hs.2.2.2⟩
theorem JC.belowB {w w' : World} {g J B : Nat} {f : Nat → Jn} (h : JC w g J f) (hl : g < B) (hb : Below B w w') : JC w' g J f :=
 ⟨fun k hk => by
  obtain ⟨a, b, c, d⟩ := h.c k hk
  exact ⟨(hb.cell (p := ⟨g, k * 4, none⟩) hl).trans a, (hb.cell (p := ⟨g, k * 4 + 1, none⟩) hl).trans b, (hb.cell (p := ⟨g, k * 4 + 2, none⟩) hl).trans c, (hb.cell (p := ⟨g, k * 4 + 3, none⟩) hl).trans d⟩, fun q => (hb.frozen (p := ⟨g, q, none⟩) hl).trans (h.z q), Nat.lt_of_lt_of_le h.lt hb.size⟩
theorem JC.setX {w : World} {g J : Nat} {f : Nat → Jn} (h : JC w g J f) {i : Nat} (hi : i < J) (x : Int) : JC (w.setCell ⟨g, i * 4 + 1, none⟩ (.int .i32 x)) g J (fun k => if k = i then ((f i).1, x, (f i).2.2) else f k) := by
 refine ⟨fun k hk => ?_, fun q => by have := h.z q; simp [go_sem, this], by simpa [World.setCell] using h.lt⟩
 obtain ⟨a, b, c, d⟩ := h.c k hk
 have z := h.z (i * 4 + 1)
 by_cases e : k = i
 ·subst e
  simp only [if_true]
  refine ⟨by simp [go_sem, a], by go_simp, by simp [go_sem, c], by simp [go_sem, d]⟩
 ·simp only [if_neg e]
  refine ⟨by simp [go_sem, a], by simp [go_sem, b], by simp [go_sem, c], by simp [go_sem, d]⟩
theorem JC.setY {w : World} {g J : Nat} {f : Nat → Jn} (h : JC w g J f) {i : Nat} (hi : i < J) (y : Int) : JC (w.setCell ⟨g, i * 4 + 2, none⟩ (.int .i32 y)) g J (fun k => if k = i then ((f i).1, (f i).2.1, y, (f i).2.2.2) else f k) := by
 refine ⟨fun k hk => ?_, fun q => by have := h.z q; simp [go_sem, this], by simpa [World.setCell] using h.lt⟩
 obtain ⟨a, b, c, d⟩ := h.c k hk
 have z := h.z (i * 4 + 2)
 by_cases e : k = i
 ·subst e
  simp only [if_true]
  refine ⟨by simp [go_sem, a], by simp [go_sem, b], by go_simp, by simp [go_sem, d]⟩
 ·simp only [if_neg e]
  refine ⟨by simp [go_sem, a], by simp [go_sem, b], by simp [go_sem, c], by simp [go_sem, d]⟩
theorem JC.row {w : World} {g J : Nat} {f : Nat → Jn} (h : JC w g J f) {js : List Jn} (hl : js.length = J) (he : ∀ k, k < J → f k = js.getD k jz) : JRow w (some ⟨g, 0, none⟩) js :=
 Or.inr ⟨g, 0, rfl, fun k hk => by
  obtain ⟨a, b, c, d⟩ := h.c k (by omega)
  rw [he k (by omega)] at a b c d
  rw [Nat.zero_add]
  exact ⟨a, b, c, d⟩⟩
theorem JC.far {w : World} {g J h o : Nat} {f : Nat → Jn} (c : JC w g J f) (hn : g ≠ h) (v : Value) : JC (w.setCell ⟨h, o, none⟩ v) g J f :=
 ⟨fun k hk => by
  obtain ⟨a, b, c, d⟩ := c.c k hk
  exact ⟨by simp [go_sem, a], by simp [go_sem, b], by simp [go_sem, c], by simp [go_sem, d]⟩, fun q => by have := c.z q; simp [go_sem, this], by simpa [World.setCell] using c.lt⟩
structure MC (w : World) (g K : Nat) (f : Nat → Mb) : Prop where
 c : ∀ k, k < K → MAt w g (k * 9) (f k)
 z : 0 < K → ∀ q, w.frozen? ⟨g, q, none⟩ = false
 lt : 0 < K → g < w.heap.size
theorem mc_of {w : World} {base K : Nat} {v : Value} {ms : List Mb} (h : w.ownsRow base 45 9 v K (mnc ms)) (hl : ms.length = K) : ∃ (ao : Option Addr) (g cap : Nat), v = .slice ao K cap ∧ (0 < K → ao = some ⟨g, 0, none⟩ ∧ v.ownBlock = some g ∧ base ≤ g) ∧ MC w g K (fun k => ms.getD k mz) := by
 obtain ⟨h1, h2⟩ := h
 rcases h2 with ⟨rfl, hn⟩ | ⟨g, cap, cur, rfl, hg, hh, hc⟩
 ·subst hn
  exact ⟨none, 0, 0, rfl, fun q => absurd q (by omega), ⟨fun k hk => absurd hk (by omega), fun q => absurd q (by omega), fun q => absurd q (by omega)⟩⟩
 ·have own : w.ownsRow base 45 9 (.slice (some ⟨g, 0, none⟩) K cap) K (mnc ms) := ⟨h1, Or.inr ⟨g, cap, cur, rfl, hg, hh, hc⟩⟩
  refine ⟨_, g, cap, rfl, fun _ => ⟨rfl, rfl, hg⟩, ⟨fun j hj => ?_, fun _ q => own.frozenAt q, fun _ => (own.lt g rfl).2⟩⟩
  have e0 := own.cellAt (j * 9) (by omega)
  have e1 := own.cellAt (j * 9 + 1) (by omega)
  have e2 := own.cellAt (j * 9 + 2) (by omega)
  have e3 := own.cellAt (j * 9 + 3) (by omega)
  have e4 := own.cellAt (j * 9 + 4) (by omega)
  have e5 := own.cellAt (j * 9 + 5) (by omega)
  have e6 := own.cellAt (j * 9 + 6) (by omega)
  have e7 := own.cellAt (j * 9 + 7) (by omega)
  have e8 := own.cellAt (j * 9 + 8) (by omega)
  obtain ⟨s0, s1, s2, s3, s4, s5, s6, s7, s8⟩ := mnc_at ms j (by omega)
  exact ⟨e0.trans s0, e1.trans s1, e2.trans s2, e3.trans s3, e4.trans s4, e5.trans s5, e6.trans s6, e7.trans s7, e8.trans s8⟩
theorem MC.below {w w' : World} {g K : Nat} {f : Nat → Mb} (h : MC w g K f) (hb : Below w.heap.size w w') : MC w' g K f :=
 ⟨fun k hk => (h.c k hk).below hb, fun q p => (hb.frozen (p := ⟨g, p, none⟩) (h.lt q)).trans (h.z q p), fun q => Nat.lt_of_lt_of_le (h.lt q) hb.size⟩
theorem MC.far {w : World} {g K h o : Nat} {f : Nat → Mb} (c : MC w g K f) (hn : 0 < K → g ≠ h) (v : Value) : MC (w.setCell ⟨h, o, none⟩ v) g K f :=
 ⟨fun k hk => by
  have n := hn (by omega)
  obtain ⟨c0, c1, c2, c3, c4, c5, c6, c7, c8⟩ := c.c k hk
  exact ⟨by simp [go_sem, c0], by simp [go_sem, c1], by simp [go_sem, c2], by simp [go_sem, c3], by simp [go_sem, c4], by simp [go_sem, c5], by simp [go_sem, c6], by simp [go_sem, c7], by simp [go_sem, c8]⟩, fun q p => by have := c.z q p; simp [go_sem, this], fun q => by simpa [World.setCell] using c.lt q⟩
theorem MC.row {w : World} {g K : Nat} {f : Nat → Mb} (h : MC w g K f) {ao : Option Addr} (ha : 0 < K → ao = some ⟨g, 0, none⟩) {ms : List Mb} (hl : ms.length = K) (he : ∀ k, k < K → f k = ms.getD k mz) : MRow w ao ms := by
 rcases Nat.eq_zero_or_pos K with q | q
 ·exact Or.inl (hl.trans q)
 ·refine Or.inr ⟨g, 0, ha q, fun k hk => ?_⟩
  have := h.c k (by omega)
  rw [he k (by omega)] at this
  rw [Nat.zero_add]
  exact this
theorem MC.swapAB {w : World} {g K : Nat} {f : Nat → Mb} (h : MC w g K f) {i : Nat} (hi : i < K) : MC ((w.setCell ⟨g, i * 9 + 2, none⟩ (.int .i64 (f i).b)).setCell ⟨g, i * 9 + 3, none⟩ (.int .i64 (f i).a)) g K (fun k => if k = i then { f i with a := (f i).b, b := (f i).a } else f k) := by
 refine ⟨fun k hk => ?_, fun q p => by have := h.z q p; simp [go_sem, this], fun q => by simpa [World.setCell] using h.lt q⟩
 obtain ⟨c0, c1, c2, c3, c4, c5, c6, c7, c8⟩ := h.c k hk
 have za := h.z (by omega) (i * 9 + 2)
 have zb := h.z (by omega) (i * 9 + 3)
 by_cases e : k = i
 ·subst e
  simp only [if_true]
  exact ⟨by simp [go_sem, c0], by simp [go_sem, c1], by go_simp, by go_simp, by simp [go_sem, c4], by simp [go_sem, c5], by simp [go_sem, c6], by simp [go_sem, c7], by simp [go_sem, c8]⟩
 ·simp only [if_neg e]
  exact ⟨by simp [go_sem, c0], by simp [go_sem, c1], by simp [go_sem, c2], by simp [go_sem, c3], by simp [go_sem, c4], by simp [go_sem, c5], by simp [go_sem, c6], by simp [go_sem, c7], by simp [go_sem, c8]⟩
theorem MC.swapH {w : World} {g K : Nat} {f : Nat → Mb} (h : MC w g K f) {i : Nat} (hi : i < K) : MC ((w.setCell ⟨g, i * 9 + 4, none⟩ (.bool (f i).hb)).setCell ⟨g, i * 9 + 5, none⟩ (.bool (f i).ha)) g K (fun k => if k = i then { f i with ha := (f i).hb, hb := (f i).ha } else f k) := by
 refine ⟨fun k hk => ?_, fun q p => by have := h.z q p; simp [go_sem, this], fun q => by simpa [World.setCell] using h.lt q⟩
 obtain ⟨c0, c1, c2, c3, c4, c5, c6, c7, c8⟩ := h.c k hk
 have za := h.z (by omega) (i * 9 + 4)
 have zb := h.z (by omega) (i * 9 + 5)
 by_cases e : k = i
 ·subst e
  simp only [if_true]
  exact ⟨by simp [go_sem, c0], by simp [go_sem, c1], by simp [go_sem, c2], by simp [go_sem, c3], by go_simp, by go_simp, by simp [go_sem, c6], by simp [go_sem, c7], by simp [go_sem, c8]⟩
 ·simp only [if_neg e]
  exact ⟨by simp [go_sem, c0], by simp [go_sem, c1], by simp [go_sem, c2], by simp [go_sem, c3], by simp [go_sem, c4], by simp [go_sem, c5], by simp [go_sem, c6], by simp [go_sem, c7], by simp [go_sem, c8]⟩
theorem JRow.far {w : World} {g h o : Nat} {js : List Jn} (r : JRow w (some ⟨g, 0, none⟩) js) (hn : g ≠ h) (v : Value) : JRow (w.setCell ⟨h, o, none⟩ v) (some ⟨g, 0, none⟩) js := by
 rcases r with r | ⟨b, off, e, hc⟩
 ·exact Or.inl r
 ·cases e
  refine Or.inr ⟨g, 0, rfl, fun k hk => ?_⟩
  obtain ⟨a, b, c, d⟩ := hc k hk
  simp only [Nat.zero_add] at a b c d ⊢
  exact ⟨by simp [go_sem, a], by simp [go_sem, b], by simp [go_sem, c], by simp [go_sem, d]⟩
end Go.Proofs.YtbfefoidpgbjaaaGreatDoor
