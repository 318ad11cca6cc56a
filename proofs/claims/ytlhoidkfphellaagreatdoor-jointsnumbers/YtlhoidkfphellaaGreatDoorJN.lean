/- JointsNumbers: the walk. -/
import Derived.Test.YtlhoidkfphellaaGreatDoorJB
import Derived.Laws.OwnMore
import Derived.Deep.AppendLies
import Derived.OwnWalk
import Derived.Maps.AppendAt
import Derived.Laws.IdiomStrings
import Derived.Test.YtlhoidkfphellaaGreatDoorJP
namespace Go.Proofs.YtlhoidkfphellaaGreatDoor
open Go.RowKit

theorem info_jn {P : Program} {t : TypeId} {z : Option Value} {s b : Nat} (h : (P.info? t).map (fun i => (i.zero, i.size, i.bytes)) = some (z, s, b)) : ∃ i, P.info? t = some i ∧ i.zero = z ∧ i.size = s ∧ i.bytes = b := by
  cases e : P.info? t with
  | none => rw [e] at h; cases h
  | some i =>
    rw [e] at h
    simp only [Option.map_some, Option.some.injEq, Prod.mk.injEq] at h
    exact ⟨i, rfl, h.1, h.2.1, h.2.2⟩
theorem Tryz.infoJ : (Tryz.prog.info? 23).map (fun i => (i.zero, i.size, i.bytes)) = some (some (.agg #[.string ByteArray.empty, .int .i32 0, .int .i32 0, .int .u8 0]), 4, 32) := by kernel_rfl
/-- Joints as cells. -/
def jnc : List Jn → List Value
  | [] => []
  | p :: ps => .string p.1 :: .int .i32 p.2.1 :: .int .i32 p.2.2.1 :: .int .u8 p.2.2.2 :: jnc ps
theorem jnc_len : ∀ ps : List Jn, (jnc ps).length = ps.length * 4
  | [] => rfl
  | _ :: ps => by simp only [jnc, List.length_cons, jnc_len ps]; omega
theorem jnc_app : ∀ ps qs : List Jn, jnc (ps ++ qs) = jnc ps ++ jnc qs
  | [], _ => rfl
  | p :: ps, qs => by simp only [List.cons_append, jnc, jnc_app ps qs]
theorem jnc_one : ∀ (ps : List Jn) (u : Value), u ∈ jnc ps → u.oneCell' = true
  | [], _, h => by cases h
  | p :: ps, u, h => by
    simp only [jnc, List.mem_cons] at h
    rcases h with rfl | rfl | rfl | rfl | h
    · rfl
    · rfl
    · rfl
    · rfl
    · exact jnc_one ps u h
theorem jnc_at : ∀ (ps : List Jn) (j : Nat), j < ps.length → (jnc ps)[j * 4]? = some (.string (ps.getD j jz).1) ∧ (jnc ps)[j * 4 + 1]? = some (.int .i32 (ps.getD j jz).2.1) ∧ (jnc ps)[j * 4 + 2]? = some (.int .i32 (ps.getD j jz).2.2.1) ∧ (jnc ps)[j * 4 + 3]? = some (.int .u8 (ps.getD j jz).2.2.2)
  | [], _, h => by simp at h
  | p :: ps, 0, _ => by simp [jnc]
  | p :: ps, j + 1, h => by
    have := jnc_at ps j (by simpa using h)
    rw [show (j + 1) * 4 = j * 4 + 1 + 1 + 1 + 1 by omega]
    simpa [jnc] using this
/-- Lists that grow, each in memory of its own. -/
structure OwJ (w wr : World) (v : Nat → Value) (xs : Nat → List Jn) : Prop where
  own : ∀ i, wr.ownsRow w.heap.size 23 4 (v i) (xs i).length (jnc (xs i))
  apart : ∀ i j a, i ≠ j → (v i).ownBlock = some a → (v j).ownBlock = some a → False
  below : Below w.heap.size w wr
theorem OwJ.start {w wr : World} (h : Below w.heap.size w wr) : OwJ w wr (fun _ => .slice none 0 0) (fun _ => []) :=
  ⟨fun _ => World.ownsRow_nil _ _ _ _, fun i j a _ p _ => by simp [Value.ownBlock] at p, h⟩
theorem jown_later {w wr w1 : World} {v : Value} {n : Nat} {xs : List Value} {e : TypeId} (q : wr.ownsRow w.heap.size e 4 v n xs) (hb : Below wr.heap.size wr w1) : w1.ownsRow w.heap.size e 4 v n xs := by
  obtain ⟨q1, q2⟩ := q
  refine ⟨q1, ?_⟩
  rcases q2 with q2 | ⟨g, cap, cur, e, b1, b2, b3⟩
  · exact Or.inl q2
  · refine Or.inr ⟨g, cap, cur, e, b1, ?_, b3⟩
    have hlt : g < wr.heap.size := by
      rcases Nat.lt_or_ge g wr.heap.size with c | c
      · exact c
      · rw [Array.getElem?_eq_none c] at b2; cases b2
    rw [hb.block g hlt]; exact b2
theorem OwJ.later {w wr w1 : World} {v : Nat → Value} {xs : Nat → List Jn} (h : OwJ w wr v xs) (hb : Below wr.heap.size wr w1) : OwJ w w1 v xs :=
  ⟨fun i => jown_later (h.own i) hb, h.apart, h.below.trans (hb.mono h.below.size)⟩
/-- A list put behind one of them. -/
theorem OwJ.next {w wr w1 : World} {v : Nat → Value} {xs : Nat → List Jn} (h : OwJ w wr v xs) (i : Nat) {v' : Value} (ys : List Jn) {m : Nat} (hm : ys.length = m) (hown : w1.ownsRow w.heap.size 23 4 v' ((xs i).length + m) (jnc (xs i) ++ jnc ys)) (hg : wr.grownBy w1 (v i).ownBlock) (ha : v'.ownBlock = (v i).ownBlock ∨ v'.ownBlock = some wr.heap.size) :
    OwJ w w1 (fun j => if j = i then v' else v j) (fun j => if j = i then xs i ++ ys else xs j) := by
  subst hm
  have hb : Below w.heap.size wr w1 := (Below.refl _ wr).grown hg h.below.size (fun k hk => ((h.own i).lt k hk).1)
  have hne : ∀ j, j ≠ i → (v j).ownBlock = none ∨ (v j).ownBlock ≠ (v i).ownBlock := fun j hj => by
    cases c : (v j).ownBlock with
    | none => exact Or.inl rfl
    | some a => exact Or.inr fun e => h.apart j i a hj c e.symm
  have hfar : ∀ j a, j ≠ i → v'.ownBlock = some a → (v j).ownBlock = some a → False := fun j a hj p q => by
    rcases ha with ha | ha
    · exact h.apart j i a hj q (by rw [← ha]; exact p)
    · have h1 := ((h.own j).lt a q).2
      rw [ha] at p
      have := Option.some.inj p
      omega
  refine ⟨fun j => ?_, fun j k a hjk p q => ?_, h.below.trans hb⟩
  · by_cases c : j = i
    · subst c
      simp only [if_true]
      rw [List.length_append, jnc_app]
      exact hown
    · simp only [if_neg c]
      exact (h.own j).kept hg (hne j c)
  · by_cases c : j = i
    · subst c
      simp only [if_true] at p
      rw [if_neg (Ne.symm hjk)] at q
      exact hfar k a (Ne.symm hjk) p q
    · rw [if_neg c] at p
      by_cases d : k = i
      · subst d
        simp only [if_true] at q
        exact hfar j a c q p
      · rw [if_neg d] at q
        exact h.apart j k a hjk p q
theorem jowned_grow {w : World} {base : Nat} {t : TypeId} {v : Value} {ps : List Jn} (h : w.ownsRow base t 4 v ps.length (jnc ps)) : ∃ ao cap, v = .slice ao ps.length cap ∧ JRow w ao ps ∧ ps.length ≤ cap := by
  obtain ⟨h1, h2⟩ := h
  rcases h2 with ⟨rfl, hn⟩ | ⟨g, cap, cur, rfl, hg, hh, hc⟩
  · exact ⟨none, 0, by rw [hn], Or.inl hn, by omega⟩
  · refine ⟨some ⟨g, 0, none⟩, cap, rfl, Or.inr ⟨g, 0, rfl, fun j hj => ?_⟩, hc.1⟩
    have own : w.ownsRow base t 4 (.slice (some ⟨g, 0, none⟩) ps.length cap) ps.length (jnc ps) := ⟨h1, Or.inr ⟨g, cap, cur, rfl, hg, hh, hc⟩⟩
    have e0 := own.cellAt (j * 4) (by omega)
    have e1 := own.cellAt (j * 4 + 1) (by omega)
    have e2 := own.cellAt (j * 4 + 2) (by omega)
    have e3 := own.cellAt (j * 4 + 3) (by omega)
    have hs := jnc_at ps j hj
    rw [Nat.zero_add]
    exact ⟨e0.trans hs.1, e1.trans hs.2.1, e2.trans hs.2.2.1, e3.trans hs.2.2.2⟩
theorem OwJ.row {w wr : World} {v : Nat → Value} {xs : Nat → List Jn} (h : OwJ w wr v xs) (i : Nat) : ∃ bo bc, v i = .slice bo (xs i).length bc ∧ JRow wr bo (xs i) := by
  obtain ⟨bo, bc, q1, q2, _⟩ := jowned_grow (h.own i)
  exact ⟨bo, bc, q1, q2⟩
theorem jbal (w : World) (o : Obj) : Below w.heap.size w (w.alloc o) := (Below.refl _ w).alloc (Nat.le_refl _) o
/-- append of one joint to one of the lists, as an equation. -/
theorem app_joint {w wr : World} {v : Nat → Value} {xs : Nat → List Jn} (h : OwJ w wr v xs) (i : Nat) (p : Jn) (hn : (xs i).length ≤ 1000) : ∃ v' w1 v2 xs2,
    ((Builtin.append_ #[35, 35] 35 #[v i, .slice (some ⟨wr.heap.size, 0, none⟩) 1 1]).run Tryz.prog (wr.alloc (.cells #[.string p.1, .int .i32 p.2.1, .int .i32 p.2.2.1, .int .u8 p.2.2.2] 23)) = .ok v' w1) ∧
    (wr.alloc (.cells #[.string p.1, .int .i32 p.2.1, .int .i32 p.2.2.1, .int .u8 p.2.2.2] 23)).grownBy w1 (v i).ownBlock ∧ OwJ w w1 v2 xs2 ∧ v2 i = v' ∧ (∀ j, j ≠ i → v2 j = v j) ∧ xs2 i = xs i ++ [p] ∧ (∀ j, j ≠ i → xs2 j = xs j) ∧ (v'.ownBlock = (v i).ownBlock ∨ v'.ownBlock = some (wr.alloc (.cells #[.string p.1, .int .i32 p.2.1, .int .i32 p.2.2.1, .int .u8 p.2.2.2] 23)).heap.size) := by
  obtain ⟨i0, hi, hz0, hz1, hz2⟩ := info_jn Tryz.infoJ
  have hall := run_append_own_at (P := Tryz.prog) (wr.alloc (.cells #[.string p.1, .int .i32 p.2.1, .int .i32 p.2.2.1, .int .u8 p.2.2.2] 23)) w.heap.size 35 35 23 i0 (.agg #[.string ByteArray.empty, .int .i32 0, .int .i32 0, .int .u8 0]) 4 32 Tryz.underlying35 hi hz0 hz1 hz2 rfl (by decide) (v i) (xs i).length (jnc (xs i)) ((h.own i).alloc _) ⟨wr.heap.size, 0, none⟩ 1 1 [.string p.1, .int .i32 p.2.1, .int .i32 p.2.2.1, .int .u8 p.2.2.2] rfl (World.news_of_block (cs := #[.string p.1, .int .i32 p.2.1, .int .i32 p.2.2.1, .int .u8 p.2.2.2]) (t := 23) (fr := (0, 0)) (heap_alloc_new _ _)) (by simp [Value.oneCell']) (by unfold maxLen; omega) (by omega) (by have := h.below.size; simp; omega)
  obtain ⟨v', w1, hr, h2, h3, _, h5⟩ := hall
  exact ⟨v', w1, _, _, hr, h3, (h.later (jbal wr _)).next i [p] rfl h2 h3 h5, by simp, fun j hj => by simp [hj], by simp, fun j hj => by simp [hj], h5⟩
theorem append18_eq {ops : Array Oper} {rest : List Oper} {o : Oper} {a : Act} {Q : Exit → Act → World → Prop} {w w' : World} {t ty : TypeId} {v u v' : Value} (hr : (Builtin.append_ #[t, t] ty #[v, u]).run Tryz.prog w = .ok v' w') (hgd : o.guard = none) (s x : Operand)
    (ho : o.op = .call { callee := .builtin .append, args := #[s, x], argTypes := #[t, t] }) (hty : o.type = ty) (hs : a.eval s = v) (hx : a.eval x = u) (h : wpList Tryz.prog ops Q rest (a.put o.dst v') w') : wpList Tryz.prog ops Q (o :: rest) a w := by
  subst hty
  refine wpList_plain hgd fun K hK => ?_
  unfold Oper.wp execOp
  simp only [ho, resolve, invoke, builtin, Sem.run_bind, Sem.run_pure, Result.andThen_ok, List.map_toArray, List.map_cons, List.map_nil, hs, hx, hr]
  exact hK _ _ h
end Go.Proofs.YtlhoidkfphellaaGreatDoor

namespace Go.Proofs.YtlhoidkfphellaaGreatDoor
open Go.RowKit

def nmS (i : Nat) : ByteArray := ⟨#[97, UInt8.ofNat (97 + i)]⟩
def nmJ (i : Nat) : Jn := (nmS i, i, 0, 0)
def nmL (k : Nat) : List Jn := (List.range k).map nmJ
theorem nmL_len (k : Nat) : (nmL k).length = k := by simp [nmL]
theorem nmL_succ (k : Nat) : nmL (k + 1) = nmL k ++ [nmJ k] := by simp [nmL, List.range_succ]
theorem nm_all : (List.range 17).all (fun k => decide (ckA (nmL k) = (0, 0))) = true := by kernel_rfl
theorem nm_ok {k : Nat} (h : k < 17) : ckA (nmL k) = (0, 0) := by
  have := List.all_eq_true.1 nm_all k (List.mem_range.2 h)
  simpa using this
theorem nm_long : ckA (nmL 17) = (3, 0) := by kernel_rfl
theorem nm_jw (k : Nat) (hk : k ≤ 17) : JWs (nmL k) := fun j hj => by
  obtain ⟨i, hi, rfl⟩ := List.mem_map.1 hj
  have := List.mem_range.1 hi
  refine ⟨?_, ?_, ?_, ?_, ?_, ?_⟩
  · show (nmS i).size ≤ maxLen
    show 2 ≤ maxLen
    unfold maxLen; omega
  all_goals
    simp only [nmJ]
    omega
theorem bytes2 (i : Nat) (z : Int) (hi : i < 100) (hz : 97 + (i : Int) = z) (w : World) : (convert 39 9 (.slice (some ⟨w.heap.size, 0, none⟩) 2 2)).run Tryz.prog (w.alloc (.cells #[.int .u8 97, .int .u8 z] 5)) = .ok (.string (nmS i)) (w.alloc (.cells #[.int .u8 97, .int .u8 z] 5)) := by
  subst hz
  refine run_convert_bytes_back _ _ _ 5 _ 2 [97, UInt8.ofNat (97 + i)] Tryz.underlying39 Tryz.underlying5 Tryz.underlying9 (fun j hj => ?_)
  have hj2 : j < 2 := hj
  rcases (show j = 0 ∨ j = 1 by omega) with rfl | rfl
  · simp [go_sem, Addr.add]
  · simp [go_sem, Addr.add]
    omega
theorem jrow_lit (w : World) (js : List Jn) (t : TypeId) : JRow (w.alloc (.cells (jnc js).toArray t)) (some ⟨w.heap.size, 0, none⟩) js := by
  refine Or.inr ⟨_, 0, rfl, fun k hk => ?_⟩
  have h := jnc_at js k hk
  have c : ∀ o, (w.alloc (.cells (jnc js).toArray t)).cell? ⟨w.heap.size, o, none⟩ = (jnc js)[o]? := fun o => by
    rw [World.cell?_alloc_mark]
    simp
  simp only [Nat.zero_add]
  rw [c, c, c, c]
  exact h
def zJ : Jn := (⟨#[122]⟩, 9, 0, 0)
def odL : List Jn := [(⟨#[]⟩, 0, 0, 0), (⟨#[65]⟩, 0, 0, 0), (⟨#[49, 97]⟩, 0, 0, 0), (⟨#[97, 98, 99, 100, 101, 102, 103, 104, 105]⟩, 0, 0, 0), (⟨#[97, 95]⟩, 0, 0, 0), (⟨#[97, 32]⟩, 0, 0, 0), (⟨#[195, 164]⟩, 0, 0, 0), (⟨#[97]⟩, 1048577, 0, 0), (⟨#[97]⟩, 0, -1048577, 0), (⟨#[97]⟩, -2147483648, 0, 0), (⟨#[97]⟩, 0, 2147483647, 0), (⟨#[97]⟩, 0, 0, 8), (⟨#[97]⟩, 0, 0, 255)]
def jwB (j : Jn) : Bool := decide (j.1.size ≤ 1000) && decide (-2147483648 ≤ j.2.1) && decide (j.2.1 ≤ 2147483647) && decide (-2147483648 ≤ j.2.2.1) && decide (j.2.2.1 ≤ 2147483647) && decide (j.2.2.2 < 256)
theorem jw_of {j : Jn} (h : jwB j = true) : JW j := by
  unfold jwB at h
  simp only [Bool.and_eq_true, decide_eq_true_eq] at h
  obtain ⟨⟨⟨⟨⟨h1, h2⟩, h3⟩, h4⟩, h5⟩, h6⟩ := h
  exact ⟨by unfold maxLen; omega, h2, h3, h4, h5, h6⟩
theorem od_all : odL.all (fun j => jwB j && decide (ckA [zJ, j] = (280, 1))) = true := by kernel_rfl
theorem od_at {k : Nat} (hk : k < 13) : JW (odL.getD k jz) ∧ ckA [zJ, odL.getD k jz] = (280, 1) := by
  have hl : k < odL.length := hk
  have hm : odL.getD k jz ∈ odL := by rw [jgetD_at hl]; exact List.getElem_mem _
  have := List.all_eq_true.1 od_all _ hm
  simp only [Bool.and_eq_true, decide_eq_true_eq] at this
  exact ⟨jw_of this.1, this.2⟩
def mxA : Jn := (⟨#[97, 98, 99, 100, 101, 102, 103, 104]⟩, 1048576, -1048576, 7)
def mxB : Jn := (⟨#[97, 48, 49, 50, 51, 52, 53, 54]⟩, -1048576, 1048576, 0)
def nuA : Jn := (⟨#[97]⟩, 1, 0, 0)
def nuB : Jn := (⟨#[98]⟩, 1, 0, 0)
def frA : Jn := (⟨#[]⟩, -1048576, -1048576, 0)
def frB : Jn := (⟨#[]⟩, 1048576, 1048576, 0)
theorem top_ok : ckA [mxA, mxB] = (0, 0) := by kernel_rfl
theorem one_bad : ckA [nuA, nuB] = (280, 1) := by kernel_rfl
theorem far_apart : aptA frA frB = (2097152, 2097152, 8796093022208) := by kernel_rfl
end Go.Proofs.YtlhoidkfphellaaGreatDoor

namespace Go.Proofs.YtlhoidkfphellaaGreatDoor
open Go.RowKit

/-- The list that the loop makes. -/
def NmS (w wr : World) (k : Nat) (s1 : Value) : Prop := ∃ (v : Nat → Value) (xs : Nat → List Jn), OwJ w wr v xs ∧ s1 = v 0 ∧ xs 0 = nmL k
set_option maxRecDepth 100000 in
set_option maxHeartbeats 8000000 in
theorem numbers_law (w : World) (hT : TabW w) :
    Calls Tryz.prog 4 #[] w fun e w' => e = .returned (.bool true) ∧ Below w.heap.size w w' := by
  have st : NmS w w 0 (.slice none 0 0) := ⟨_, _, OwJ.start (Below.refl _ _), rfl, rfl⟩
  go_enter Tryz.func4, Tryz.ntmps4
  go_upto_region 3 with fail
  go_loopg [2, 1] 17 (fun g i s1 wr => ∃ k : Nat, k ≤ 17 ∧ g = 17 - k ∧ i = .int .i64 k ∧ NmS w wr k s1)
  case atStart => exact ⟨0, by omega, rfl, rfl, st⟩
  case round =>
    obtain ⟨k, hk, hg, rfl, hS⟩ := hrel
    have HG : Hid (gk = 17 - k) := hg
    clear hg st
    obtain ⟨v, xs, hOw, rfl, e0⟩ := hS
    obtain ⟨bo, bc, ev0, r0⟩ := hOw.row 0
    rw [e0, nmL_len] at ev0
    rw [e0] at r0
    have c0 := check_any (nmL k) bo bc wr r0 (nm_jw k hk) (by rw [nmL_len]; omega)
    rw [nmL_len] at c0
    by_cases hlt : k < 17
    · rw [nm_ok hlt] at c0
      simp only at c0
      have i1 : (k : Int) < 17 := by omega
      have hcv := bytes2 k (97 + (k : Int)) (by omega) rfl
      have HV : Hid (v 0 = .slice bo k bc) := ev0
      have HX : Hid (xs 0 = nmL k) := e0
      rw [ev0]
      clear r0 e0 ev0
      go_upto_region 8 with (go_at_call 12; refine c0.mono ?_; rintro e w3 ⟨rfl, d3⟩)
      have hOw3 := hOw.later d3
      have hO4 := hOw3.later (jbal w3 (.cells #[.int .u8 97, .int .u8 (97 + (k : Int))] 5))
      obtain ⟨v', w4, v2, xs2, hrun, _, hOw4, f1, _, f3, _, _⟩ := app_joint hO4 0 (nmJ k) (by rw [HX.out, nmL_len]; omega)
      rw [HV.out] at hrun
      have hs : (w3.alloc (.cells #[.int .u8 97, .int .u8 (97 + (k : Int))] 5)).heap.size = w3.heap.size + 1 := by simp
      rw [hs] at hrun
      have hrun' : (Builtin.append_ #[35, 35] 35 #[.slice bo k bc, .slice (some ⟨w3.heap.size + 1, 0, none⟩) 1 1]).run Tryz.prog ((w3.alloc (.cells #[.int .u8 97, .int .u8 (97 + (k : Int))] 5)).alloc (.cells #[.string (nmS k), .int .i32 k, .int .i32 0, .int .u8 0] 23)) = .ok v' w4 := hrun
      have HE : Hid (xs2 0 = nmL (k + 1)) := (show _ = _ by rw [f3, HX.out, nmL_succ])
      have HF : Hid (v2 0 = v') := f1
      clear hrun hs f1 f3 hO4 hOw3
      go_wp2_with (at_builtin; refine append18_eq hrun' rfl _ _ rfl rfl rfl rfl ?_)
      go_roundg (17 - (k + 1))
      case measure => rw [HG.out]; omega
      case rel => exact ⟨k + 1, by omega, rfl, by go_num, v2, xs2, hOw4, HF.out.symm, HE.out⟩
    · obtain rfl : k = 17 := by omega
      rw [nm_long] at c0
      simp only at c0
      have hb := hOw.below
      rw [ev0]
      clear hOw e0 r0 ev0
      go_upto_region 10 with (go_at_call 12; refine c0.mono ?_; rintro e w3 ⟨rfl, d3⟩)
      have hb3 := hb.trans (d3.mono hb.size)
      clear c0 d3 hb
      have hRO := jrow_lit w3 odL 23
      have hbO := hb3.alloc hb3.size (.cells (jnc odL).toArray 23)
      go_upto_region 12 with fail
      show Code.wp Tryz.prog _ _ _ (w3.alloc (.cells (jnc odL).toArray 23))
      generalize w3.alloc (.cells (jnc odL).toArray 23) = W at *
      generalize w3.heap.size = G at *
      clear hb3
      have HRO : Hid (JRow W (some ⟨G, 0, none⟩) odL) := hRO
      clear hRO
      have hT' : ∀ w', Below w.heap.size w w' → TabW w' := fun w' h => tabW_below hT h
      go_loopg [8] 13 (fun g i wr => ∃ k : Nat, k ≤ 13 ∧ g = 13 - k ∧ i = .int .i64 k ∧ Below W.heap.size W wr)
      case atStart => exact ⟨0, by omega, rfl, rfl, Below.refl _ _⟩
      case round =>
        obtain ⟨m, hm, hg2, rfl, hbm⟩ := hrel
        have HG2 : Hid (_ = 13 - m) := hg2
        clear hg2
        have hbw := hbO.trans (hbm.mono hbO.size)
        by_cases hlm : m < 13
        · rcases HRO.out.below hbm with h | ⟨b', off', e', hc⟩
          · exact absurd h (by decide)
          cases e'
          obtain ⟨g0, g1, g2, g3⟩ := hc m hlm
          obtain ⟨jw, ck⟩ := od_at hlm
          have cC := fun w' => check_any [zJ, odL.getD m jz] (some ⟨w'.heap.size, 0, none⟩) 2 _ (jrow_two w' zJ (odL.getD m jz) 23) (jws_two (jw_of (by decide)) jw) (by simp)
          have cA := fun w' (t : TabW w') => apart_law (odL.getD m jz) (⟨#[]⟩, 1, 0, 0) w' t
          have cB := fun w' (t : TabW w') => apart_law (⟨#[]⟩, 0, 1, 0) (odL.getD m jz) w' t
          rw [ck] at cC
          generalize odL.getD m jz = o at *
          obtain ⟨s, x, y, f⟩ := o
          unfold jV at cA cB
          unfold zJ at cC
          simp only [List.length_cons, List.length_nil] at cA cB cC
          simp only [Nat.zero_add] at g0 g1 g2 g3
          have i1 : (m : Int) < 13 := by omega
          clear hc jw ck
          go_upto_region 15 with (go_at_call 12; refine (cC _).mono ?_; rintro e w5 ⟨rfl, d5⟩)
          have z5 := old1 d5
          have hb5 := hbw.trans (z5.mono hbw.size)
          have hbm5 := hbm.trans (z5.mono hbm.size)
          have HQ : Hid (∀ w', Below wr.heap.size wr w' → w'.cell? ⟨G, m * 4, none⟩ = some (.string s) ∧ w'.cell? ⟨G, m * 4 + 1, none⟩ = some (.int .i32 x) ∧ w'.cell? ⟨G, m * 4 + 2, none⟩ = some (.int .i32 y) ∧ w'.cell? ⟨G, m * 4 + 3, none⟩ = some (.int .u8 f)) := fun w' hb' => by
            have hq : G < wr.heap.size := World.block_lt_of_cell? wr _ g0
            exact ⟨(hb'.cell hq).trans g0, (hb'.cell hq).trans g1, (hb'.cell hq).trans g2, (hb'.cell hq).trans g3⟩
          obtain ⟨p0, p1, p2, p3⟩ := HQ.out w5 z5
          clear g0 g1 g2 g3 cC d5
          go_wp2_with (first
            | (go_at_call_of 3 (Value.agg #[Value.string { data := #[] }, Value.int IntKind.i32 1, Value.int IntKind.i32 0, Value.int IntKind.u8 0]); refine (cA _ (hT' _ hb5)).mono ?_; rintro e w6 ⟨rfl, d6⟩; have hb6 := hb5.trans (d6.mono hb5.size); have hbm6 := hbm5.trans (d6.mono hbm5.size); obtain ⟨q0, q1, q2, q3⟩ := HQ.out w6 (z5.trans (d6.mono z5.size)))
            | (go_at_call 3; refine (cB _ (hT' _ hb6)).mono ?_; rintro e w7 ⟨rfl, d7⟩; have hbm7 := hbm6.trans (d7.mono hbm6.size)))
          go_roundg (13 - (m + 1))
          case measure => rw [HG2.out]; omega
          case rel => exact ⟨m + 1, by omega, rfl, by go_num, hbm7⟩
        · obtain rfl : m = 13 := by omega
          have c1 := fun w' => check_any [mxA, mxB] (some ⟨w'.heap.size, 0, none⟩) 2 _ (jrow_two w' mxA mxB 23) (jws_two (jw_of (by decide)) (jw_of (by decide))) (by simp)
          have c2 := fun w' => check_any [nuA, nuB] (some ⟨w'.heap.size, 0, none⟩) 2 _ (jrow_two w' nuA nuB 23) (jws_two (jw_of (by decide)) (jw_of (by decide))) (by simp)
          have c3 := fun w' => apart_any frA frB w'
          have c4 := fun w' (t : TabW w') => jawake_any w' t
          rw [top_ok] at c1
          rw [one_bad] at c2
          rw [far_apart] at c3
          unfold mxA mxB at c1
          unfold nuA nuB at c2
          unfold frA frB jV at c3
          simp only [List.length_cons, List.length_nil] at c1 c2 c3
          clear hbm HRO
          go_upto_region 18 with (go_at_call 12; refine (c1 _).mono ?_; rintro e w5 ⟨rfl, d5⟩)
          have hb5 := hbw.trans ((old1 d5).mono hbw.size)
          go_upto_region 19 with (go_at_call 12; refine (c2 _).mono ?_; rintro e w6 ⟨rfl, d6⟩)
          have hb6 := hb5.trans ((old1 d6).mono hb5.size)
          clear c1 c2 d5 d6 hbw hb5
          go_upto_region 20 with (go_at_call 5; refine (c3 _).mono ?_; rintro e w7 ⟨rfl, d7⟩)
          have hb7 := hb6.trans (d7.mono hb6.size)
          clear c3 d7 hb6
          go_wp2_with (go_at_call 11; refine (c4 _ (hT' _ hb7)).mono ?_; rintro e w8 ⟨rfl, d8⟩)
          go_ret
          exact ⟨rfl, hb7.trans (d8.mono hb7.size)⟩
end Go.Proofs.YtlhoidkfphellaaGreatDoor
