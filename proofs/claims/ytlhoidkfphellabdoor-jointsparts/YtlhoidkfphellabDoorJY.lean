/- JointsParts: the walk. -/
import Derived.Test.YtlhoidkfphellabDoorJB
import Derived.Laws.OwnMore
import Derived.Deep.AppendLies
import Derived.OwnWalk
import Derived.Maps.AppendAt
import Derived.Test.YtlhoidkfphellabDoorJA
namespace Go.Proofs.YtlhoidkfphellabDoor
open Go.RowKit

theorem info_jn {P : Program} {t : TypeId} {z : Option Value} {s b : Nat} (h : (P.info? t).map (fun i => (i.zero, i.size, i.bytes)) = some (z, s, b)) : ∃ i, P.info? t = some i ∧ i.zero = z ∧ i.size = s ∧ i.bytes = b := by
  cases e : P.info? t with
  | none => rw [e] at h; cases h
  | some i =>
    rw [e] at h
    simp only [Option.map_some, Option.some.injEq, Prod.mk.injEq] at h
    exact ⟨i, rfl, h.1, h.2.1, h.2.2⟩
theorem Tryd.infoJ : (Tryd.prog.info? 30).map (fun i => (i.zero, i.size, i.bytes)) = some (some (.agg #[.string ByteArray.empty, .int .i32 0, .int .i32 0, .int .u8 0]), 4, 32) := by kernel_rfl
/-- Joints as cells. -/
def jnc : List Jn → List Value
  | [] => []
  | p :: ps => .string p.1 :: .int .i32 p.2.1 :: .int .i32 p.2.2.1 :: .int .u8 p.2.2.2 :: jnc ps
theorem jnc_len : ∀ ps : List Jn, (jnc ps).length = ps.length * 4
  | [] => rfl
  | _ :: ps => by simp only [jnc, List.length_cons, jnc_len ps]; omega
theorem jnc_app : ∀ ps qs : List Jn, jnc (ps ++ qs) = jnc ps ++ jnc qs
  | [], _ => rfl
  | p :: ps, qs => by simp only [List.cons_append, jnc, jnc_app ps qs]
theorem jnc_one : ∀ (ps : List Jn) (u : Value), u ∈ jnc ps → u.oneCell' = true
  | [], _, h => by cases h
  | p :: ps, u, h => by
    simp only [jnc, List.mem_cons] at h
    rcases h with rfl | rfl | rfl | rfl | h
    · rfl
    · rfl
    · rfl
    · rfl
    · exact jnc_one ps u h
theorem jnc_at : ∀ (ps : List Jn) (j : Nat), j < ps.length → (jnc ps)[j * 4]? = some (.string (ps.getD j jz).1) ∧ (jnc ps)[j * 4 + 1]? = some (.int .i32 (ps.getD j jz).2.1) ∧ (jnc ps)[j * 4 + 2]? = some (.int .i32 (ps.getD j jz).2.2.1) ∧ (jnc ps)[j * 4 + 3]? = some (.int .u8 (ps.getD j jz).2.2.2)
  | [], _, h => by simp at h
  | p :: ps, 0, _ => by simp [jnc]
  | p :: ps, j + 1, h => by
    have := jnc_at ps j (by simpa using h)
    rw [show (j + 1) * 4 = j * 4 + 1 + 1 + 1 + 1 by omega]
    simpa [jnc] using this
/-- Lists that grow, each in memory of its own. -/
structure OwJ (w wr : World) (v : Nat → Value) (xs : Nat → List Jn) : Prop where
  own : ∀ i, wr.ownsRow w.heap.size 30 4 (v i) (xs i).length (jnc (xs i))
  apart : ∀ i j a, i ≠ j → (v i).ownBlock = some a → (v j).ownBlock = some a → False
  below : Below w.heap.size w wr
theorem OwJ.start {w wr : World} (h : Below w.heap.size w wr) : OwJ w wr (fun _ => .slice none 0 0) (fun _ => []) :=
  ⟨fun _ => World.ownsRow_nil _ _ _ _, fun i j a _ p _ => by simp [Value.ownBlock] at p, h⟩
theorem jown_later {w wr w1 : World} {v : Value} {n : Nat} {xs : List Value} {e : TypeId} (q : wr.ownsRow w.heap.size e 4 v n xs) (hb : Below wr.heap.size wr w1) : w1.ownsRow w.heap.size e 4 v n xs := by
  obtain ⟨q1, q2⟩ := q
  refine ⟨q1, ?_⟩
  rcases q2 with q2 | ⟨g, cap, cur, e, b1, b2, b3⟩
  · exact Or.inl q2
  · refine Or.inr ⟨g, cap, cur, e, b1, ?_, b3⟩
    have hlt : g < wr.heap.size := by
      rcases Nat.lt_or_ge g wr.heap.size with c | c
      · exact c
      · rw [Array.getElem?_eq_none c] at b2; cases b2
    rw [hb.block g hlt]; exact b2
theorem OwJ.later {w wr w1 : World} {v : Nat → Value} {xs : Nat → List Jn} (h : OwJ w wr v xs) (hb : Below wr.heap.size wr w1) : OwJ w w1 v xs :=
  ⟨fun i => jown_later (h.own i) hb, h.apart, h.below.trans (hb.mono h.below.size)⟩
/-- A list put behind one of them. -/
theorem OwJ.next {w wr w1 : World} {v : Nat → Value} {xs : Nat → List Jn} (h : OwJ w wr v xs) (i : Nat) {v' : Value} (ys : List Jn) {m : Nat} (hm : ys.length = m) (hown : w1.ownsRow w.heap.size 30 4 v' ((xs i).length + m) (jnc (xs i) ++ jnc ys)) (hg : wr.grownBy w1 (v i).ownBlock) (ha : v'.ownBlock = (v i).ownBlock ∨ v'.ownBlock = some wr.heap.size) :
    OwJ w w1 (fun j => if j = i then v' else v j) (fun j => if j = i then xs i ++ ys else xs j) := by
  subst hm
  have hb : Below w.heap.size wr w1 := (Below.refl _ wr).grown hg h.below.size (fun k hk => ((h.own i).lt k hk).1)
  have hne : ∀ j, j ≠ i → (v j).ownBlock = none ∨ (v j).ownBlock ≠ (v i).ownBlock := fun j hj => by
    cases c : (v j).ownBlock with
    | none => exact Or.inl rfl
    | some a => exact Or.inr fun e => h.apart j i a hj c e.symm
  have hfar : ∀ j a, j ≠ i → v'.ownBlock = some a → (v j).ownBlock = some a → False := fun j a hj p q => by
    rcases ha with ha | ha
    · exact h.apart j i a hj q (by rw [← ha]; exact p)
    · have h1 := ((h.own j).lt a q).2
      rw [ha] at p
      have := Option.some.inj p
      omega
  refine ⟨fun j => ?_, fun j k a hjk p q => ?_, h.below.trans hb⟩
  · by_cases c : j = i
    · subst c
      simp only [if_true]
      rw [List.length_append, jnc_app]
      exact hown
    · simp only [if_neg c]
      exact (h.own j).kept hg (hne j c)
  · by_cases c : j = i
    · subst c
      simp only [if_true] at p
      rw [if_neg (Ne.symm hjk)] at q
      exact hfar k a (Ne.symm hjk) p q
    · rw [if_neg c] at p
      by_cases d : k = i
      · subst d
        simp only [if_true] at q
        exact hfar j a c q p
      · rw [if_neg d] at q
        exact h.apart j k a hjk p q
theorem jowned_grow {w : World} {base : Nat} {t : TypeId} {v : Value} {ps : List Jn} (h : w.ownsRow base t 4 v ps.length (jnc ps)) : ∃ ao cap, v = .slice ao ps.length cap ∧ JRow w ao ps ∧ ps.length ≤ cap := by
  obtain ⟨h1, h2⟩ := h
  rcases h2 with ⟨rfl, hn⟩ | ⟨g, cap, cur, rfl, hg, hh, hc⟩
  · exact ⟨none, 0, by rw [hn], Or.inl hn, by omega⟩
  · refine ⟨some ⟨g, 0, none⟩, cap, rfl, Or.inr ⟨g, 0, rfl, fun j hj => ?_⟩, hc.1⟩
    have own : w.ownsRow base t 4 (.slice (some ⟨g, 0, none⟩) ps.length cap) ps.length (jnc ps) := ⟨h1, Or.inr ⟨g, cap, cur, rfl, hg, hh, hc⟩⟩
    have e0 := own.cellAt (j * 4) (by omega)
    have e1 := own.cellAt (j * 4 + 1) (by omega)
    have e2 := own.cellAt (j * 4 + 2) (by omega)
    have e3 := own.cellAt (j * 4 + 3) (by omega)
    have hs := jnc_at ps j hj
    rw [Nat.zero_add]
    exact ⟨e0.trans hs.1, e1.trans hs.2.1, e2.trans hs.2.2.1, e3.trans hs.2.2.2⟩
theorem OwJ.row {w wr : World} {v : Nat → Value} {xs : Nat → List Jn} (h : OwJ w wr v xs) (i : Nat) : ∃ bo bc, v i = .slice bo (xs i).length bc ∧ JRow wr bo (xs i) := by
  obtain ⟨bo, bc, q1, q2, _⟩ := jowned_grow (h.own i)
  exact ⟨bo, bc, q1, q2⟩
theorem jbal (w : World) (o : Obj) : Below w.heap.size w (w.alloc o) := (Below.refl _ w).alloc (Nat.le_refl _) o
/-- append of one joint to one of the lists, as an equation. -/
theorem app_joint {w wr : World} {v : Nat → Value} {xs : Nat → List Jn} (h : OwJ w wr v xs) (i : Nat) (p : Jn) (hn : (xs i).length ≤ 1000) : ∃ v' w1 v2 xs2,
    ((Builtin.append_ #[22, 22] 22 #[v i, .slice (some ⟨wr.heap.size, 0, none⟩) 1 1]).run Tryd.prog (wr.alloc (.cells #[.string p.1, .int .i32 p.2.1, .int .i32 p.2.2.1, .int .u8 p.2.2.2] 30)) = .ok v' w1) ∧
    (wr.alloc (.cells #[.string p.1, .int .i32 p.2.1, .int .i32 p.2.2.1, .int .u8 p.2.2.2] 30)).grownBy w1 (v i).ownBlock ∧ OwJ w w1 v2 xs2 ∧ v2 i = v' ∧ (∀ j, j ≠ i → v2 j = v j) ∧ xs2 i = xs i ++ [p] ∧ (∀ j, j ≠ i → xs2 j = xs j) ∧ (v'.ownBlock = (v i).ownBlock ∨ v'.ownBlock = some (wr.alloc (.cells #[.string p.1, .int .i32 p.2.1, .int .i32 p.2.2.1, .int .u8 p.2.2.2] 30)).heap.size) := by
  obtain ⟨i0, hi, hz0, hz1, hz2⟩ := info_jn Tryd.infoJ
  have hall := run_append_own_at (P := Tryd.prog) (wr.alloc (.cells #[.string p.1, .int .i32 p.2.1, .int .i32 p.2.2.1, .int .u8 p.2.2.2] 30)) w.heap.size 22 22 30 i0 (.agg #[.string ByteArray.empty, .int .i32 0, .int .i32 0, .int .u8 0]) 4 32 Tryd.underlying22 hi hz0 hz1 hz2 rfl (by decide) (v i) (xs i).length (jnc (xs i)) ((h.own i).alloc _) ⟨wr.heap.size, 0, none⟩ 1 1 [.string p.1, .int .i32 p.2.1, .int .i32 p.2.2.1, .int .u8 p.2.2.2] rfl (World.news_of_block (cs := #[.string p.1, .int .i32 p.2.1, .int .i32 p.2.2.1, .int .u8 p.2.2.2]) (t := 30) (fr := (0, 0)) (heap_alloc_new _ _)) (by simp [Value.oneCell']) (by unfold maxLen; omega) (by omega) (by have := h.below.size; simp; omega)
  obtain ⟨v', w1, hr, h2, h3, _, h5⟩ := hall
  exact ⟨v', w1, _, _, hr, h3, (h.later (jbal wr _)).next i [p] rfl h2 h3 h5, by simp, fun j hj => by simp [hj], by simp, fun j hj => by simp [hj], h5⟩
theorem append18_eq {ops : Array Oper} {rest : List Oper} {o : Oper} {a : Act} {Q : Exit → Act → World → Prop} {w w' : World} {t ty : TypeId} {v u v' : Value} (hr : (Builtin.append_ #[t, t] ty #[v, u]).run Tryd.prog w = .ok v' w') (hgd : o.guard = none) (s x : Operand)
    (ho : o.op = .call { callee := .builtin .append, args := #[s, x], argTypes := #[t, t] }) (hty : o.type = ty) (hs : a.eval s = v) (hx : a.eval x = u) (h : wpList Tryd.prog ops Q rest (a.put o.dst v') w') : wpList Tryd.prog ops Q (o :: rest) a w := by
  subst hty
  refine wpList_plain hgd fun K hK => ?_
  unfold Oper.wp execOp
  simp only [ho, resolve, invoke, builtin, Sem.run_bind, Sem.run_pure, Result.andThen_ok, List.map_toArray, List.map_cons, List.map_nil, hs, hx, hr]
  exact hK _ _ h
end Go.Proofs.YtlhoidkfphellabDoor

namespace Go.Proofs.YtlhoidkfphellabDoor
open Go.RowKit

/-- Two joints that may stand in one list. -/
def Unl (a b : Jn) : Prop := a.1 ≠ b.1 ∧ ¬ (a.2.1 = b.2.1 ∧ a.2.2.1 = b.2.2.1)
theorem Unl.symm {a b : Jn} (h : Unl a b) : Unl b a := ⟨fun e => h.1 e.symm, fun e => h.2 ⟨e.1.symm, e.2.symm⟩⟩
theorem fB_iff {js : List Jn} {k : Nat} (hk : k < js.length) : fB js k = false ↔ (∀ i, i < k → Unl (js.getD i jz) (js.getD k jz)) ∧ myB (js.getD k jz) = true := by
  unfold fB hsN hsP
  rw [Bool.or_eq_false_iff, Bool.or_eq_false_iff, List.any_eq_false, List.any_eq_false, Bool.not_eq_false']
  constructor
  · rintro ⟨⟨h1, h2⟩, h3⟩
    refine ⟨fun i hi => ?_, h3⟩
    have hm : js.getD i jz ∈ js.take k := by
      rw [jgetD_at (by omega)]
      exact List.mem_take_iff_getElem.2 ⟨i, by omega, rfl⟩
    have a1 := h1 _ hm
    have a2 := h2 _ hm
    simp only [decide_eq_true_eq] at a1 a2
    exact ⟨a1, a2⟩
  · rintro ⟨h1, h3⟩
    have hg : ∀ j, j ∈ js.take k → Unl j (js.getD k jz) := fun j hj => by
      obtain ⟨i, hi, rfl⟩ := List.mem_take_iff_getElem.1 hj
      have := h1 i (by omega)
      rw [jgetD_at (by omega)] at this
      exact this
    refine ⟨⟨fun j hj => ?_, fun j hj => ?_⟩, h3⟩
    · simp only [decide_eq_true_eq]; exact (hg j hj).1
    · simp only [decide_eq_true_eq]; exact (hg j hj).2
/-- A list that may be. -/
structure OkJ (js : List Jn) : Prop where
  len : js.length ≤ 16
  may : ∀ j, j ∈ js → myB j = true
  unl : js.Pairwise Unl
theorem ok_ck {js : List Jn} (h : OkJ js) : ckA js = (0, 0) := by
  refine ck_ok (by have := h.len; omega) fun k hk => (fB_iff hk).2 ⟨fun i hi => ?_, ?_⟩
  · rw [jgetD_at (by omega), jgetD_at hk]
    exact List.pairwise_iff_getElem.1 h.unl i k (by omega) hk hi
  · rw [jgetD_at hk]
    exact h.may _ (List.getElem_mem hk)
theorem ck_cases (js : List Jn) : (16 < js.length ∧ ckA js = (3, 0)) ∨ (js.length ≤ 16 ∧ ∃ k, k < js.length ∧ (∀ i, i < k → fB js i = false) ∧ fB js k = true ∧ ckA js = (280, k)) ∨ (OkJ js ∧ ckA js = (0, 0)) := by
  by_cases h : 16 < js.length
  · exact Or.inl ⟨h, ck_long h⟩
  · right
    by_cases hx : ∃ k, k < js.length ∧ fB js k = true
    · left
      obtain ⟨k, hk, h1⟩ := hx
      obtain ⟨m, hm⟩ : ∃ m, (List.range js.length).find? (fB js) = some m := by
        rcases hf : (List.range js.length).find? (fB js) with _ | m
        · exfalso
          rw [List.find?_eq_none] at hf
          exact hf k (by simpa using hk) h1
        · exact ⟨m, rfl⟩
      rw [List.find?_range_eq_some] at hm
      obtain ⟨m1, m2, m3⟩ := hm
      have m2' : m < js.length := by simpa using m2
      have m4 : ∀ i, i < m → fB js i = false := fun i hi => by simpa using m3 i hi
      exact ⟨by omega, m, m2', m4, m1, ck_bad h m2' m4 m1⟩
    · right
      have ha : ∀ i, i < js.length → fB js i = false := fun i hi => by
        cases q : fB js i
        · rfl
        · exact absurd ⟨i, hi, q⟩ hx
      refine ⟨⟨by omega, fun j hj => ?_, ?_⟩, ck_ok h ha⟩
      · obtain ⟨i, hi, rfl⟩ := List.mem_iff_getElem.1 hj
        have := ((fB_iff hi).1 (ha i hi)).2
        rw [jgetD_at hi] at this
        exact this
      · refine List.pairwise_iff_getElem.2 fun i j hi hj hij => ?_
        have := ((fB_iff hj).1 (ha j hj)).1 i hij
        rw [jgetD_at hi, jgetD_at hj] at this
        exact this
theorem OkJ.reverse {js : List Jn} (h : OkJ js) : OkJ js.reverse :=
  ⟨by rw [List.length_reverse]; exact h.len, fun j hj => h.may j (List.mem_reverse.1 hj), List.pairwise_reverse.2 (h.unl.imp fun g => g.symm)⟩
theorem OkJ.sub {js ys : List Jn} (h : OkJ js) (hs : ys.Sublist js) : OkJ ys :=
  ⟨Nat.le_trans hs.length_le h.len, fun j hj => h.may j (hs.subset hj), h.unl.sublist hs⟩
theorem fB_take {js : List Jn} {k m : Nat} (_hm : m ≤ js.length) (hk : k < m) : fB (js.take m) k = fB js k := by
  have e1 : (js.take m).take k = js.take k := by rw [List.take_take, Nat.min_eq_left (by omega)]
  have e2 : (js.take m).getD k jz = js.getD k jz := by
    rw [List.getD_eq_getElem?_getD, List.getD_eq_getElem?_getD, List.getElem?_take_of_lt hk]
  unfold fB
  rw [e1, e2]
theorem bad_take {js : List Jn} {k : Nat} (hl : js.length ≤ 16) (hk : k < js.length) (ha : ∀ i, i < k → fB js i = false) (hp : fB js k = true) : ckA (js.take k) = (0, 0) ∧ ckA (js.take (k + 1)) = (280, k) := by
  have l1 : (js.take k).length = k := by rw [List.length_take]; omega
  have l2 : (js.take (k + 1)).length = k + 1 := by rw [List.length_take]; omega
  refine ⟨ck_ok (by omega) fun i hi => ?_, ck_bad (by omega) (by omega) (fun i hi => ?_) ?_⟩
  · rw [l1] at hi
    rw [fB_take (by omega) hi]
    exact ha i hi
  · rw [fB_take (by omega) (by omega)]
    exact ha i hi
  · rw [fB_take (by omega) (by omega)]
    exact hp
theorem ok_more {js : List Jn} {j : Jn} (h : OkJ js) (hj : j ∈ js) (hl : js.length < 16) : ckA (js ++ [j]) = (280, js.length) := by
  have l1 : (js ++ [j]).length = js.length + 1 := by simp
  have e1 : (js ++ [j]).take js.length = js := by simp
  have ha : ∀ i, i < js.length → fB (js ++ [j]) i = false := fun i hi => by
    have := fB_take (js := js ++ [j]) (m := js.length) (by omega) hi
    rw [e1] at this
    rw [← this]
    have hk := ok_ck h
    refine (fB_iff hi).2 ⟨fun q hq => ?_, ?_⟩
    · rw [jgetD_at (by omega), jgetD_at hi]
      exact List.pairwise_iff_getElem.1 h.unl q i (by omega) hi hq
    · rw [jgetD_at hi]
      exact h.may _ (List.getElem_mem hi)
  refine ck_bad (by omega) (by omega) ha ?_
  have e2 : (js ++ [j]).getD js.length jz = j := by simp [List.getD_eq_getElem?_getD]
  unfold fB
  rw [e1, e2, show hsN js j.1 = true from List.any_eq_true.2 ⟨j, hj, by simp⟩]
  rfl
end Go.Proofs.YtlhoidkfphellabDoor

namespace Go.Proofs.YtlhoidkfphellabDoor
open Go.RowKit

set_option maxHeartbeats 400000 in
theorem pick_n (x : Int) (c : Nat) (h1 : 1 ≤ c) (h2 : c ≤ 1000000000) (w : World) : Calls Tryd.prog 8 #[.int .i64 x, .int .i64 c] w fun e w' => ∃ m : Int, e = .returned (.int .i64 m) ∧ 0 ≤ m ∧ m < c ∧ w' = w := by
  have b1 : x.tmod c < c := Int.tmod_lt_of_pos x (by omega)
  have b2 : -(c : Int) < x.tmod c := by
    have := Int.tmod_lt_of_pos (-x) (show (0 : Int) < c by omega)
    rw [Int.neg_tmod] at this
    omega
  have c0 : ¬ (c : Int) = 0 := by omega
  by_cases h : x.tmod c < 0
  · generalize hy : x.tmod c = y at *
    go_enter Tryd.func8, Tryd.ntmps8
    go_wp2
    go_ret
    exact ⟨_, rfl, by omega, by omega, rfl⟩
  · generalize hy : x.tmod c = y at *
    go_enter Tryd.func8, Tryd.ntmps8
    go_wp2
    go_ret
    exact ⟨_, rfl, by omega, by omega, rfl⟩
end Go.Proofs.YtlhoidkfphellabDoor

namespace Go.Proofs.YtlhoidkfphellabDoor
open Go.RowKit

theorem OwJ.one {w wr : World} {v : Value} {xs : List Jn} (h : wr.ownsRow w.heap.size 30 4 v xs.length (jnc xs)) (hb : Below w.heap.size w wr) : OwJ w wr (fun i => if i = 0 then v else .slice none 0 0) (fun i => if i = 0 then xs else []) := by
  refine ⟨fun i => ?_, fun i j a hij p q => ?_, hb⟩
  · by_cases c : i = 0
    · simp only [c, if_true]; exact h
    · simp only [if_neg c]; exact World.ownsRow_nil _ _ _ _
  · by_cases c : i = 0
    · by_cases d : j = 0
      · omega
      · rw [if_neg d] at q; simp [Value.ownBlock] at q
    · rw [if_neg c] at p; simp [Value.ownBlock] at p
set_option maxHeartbeats 1000000 in
theorem copyJ_any (js : List Jn) (ao : Option Addr) (cap : Nat) (w : World) (hr : JRow w ao js) (h0 : js.length ≠ 0) (hn : js.length ≤ 16) :
    Calls Tryd.prog 7 #[.slice ao js.length cap] w fun e w' => ∃ v, e = .returned v ∧ w'.ownsRow w.heap.size 30 4 v js.length (jnc js) ∧ Below w.heap.size w w' := by
  obtain ⟨i0, hi, hz0, hz1, hz2⟩ := info_jn Tryd.infoJ
  rcases hr with h | ⟨b, off, rfl, hc⟩
  · exact absurd h h0
  have hO : w.ownsRow w.heap.size 30 4 (.slice none 0 0) 0 [] := World.ownsRow_nil _ _ _ _
  have hnews : ∀ j u, (jnc js)[j]? = some u → w.cell? ((⟨b, off, none⟩ : Addr).add j) = some u := fun j u hu => by
    have hj : j < js.length * 4 := by
      have := (List.getElem?_eq_some_iff.1 hu).1
      rw [jnc_len] at this; exact this
    have hadd : (⟨b, off, none⟩ : Addr).add j = ⟨b, off + j, none⟩ := by
      unfold Addr.add
      split
      · rename_i h; subst h; rfl
      · rfl
    rw [hadd]
    have g := hc (j / 4) (by omega)
    have s := jnc_at js (j / 4) (by omega)
    rcases (show j = j / 4 * 4 ∨ j = j / 4 * 4 + 1 ∨ j = j / 4 * 4 + 2 ∨ j = j / 4 * 4 + 3 by omega) with q | q | q | q
    · rw [← q] at g s
      rw [s.1] at hu; cases hu; exact g.1
    · rw [Nat.add_assoc off _ 1, ← q] at g
      rw [← q] at s
      rw [s.2.1] at hu; cases hu; exact g.2.1
    · rw [Nat.add_assoc off _ 2, ← q] at g
      rw [← q] at s
      rw [s.2.2.1] at hu; cases hu; exact g.2.2.1
    · rw [Nat.add_assoc off _ 3, ← q] at g
      rw [← q] at s
      rw [s.2.2.2] at hu; cases hu; exact g.2.2.2
  clear hc
  go_enter Tryd.func7, Tryd.ntmps7
  go_wp2_with (at_builtin; refine wpList_append_own _ rfl _ _ 22 rfl w.heap.size 30 i0 (.agg #[.string ByteArray.empty, .int .i32 0, .int .i32 0, .int .u8 0]) 4 32 Tryd.underlying22 hi hz0 hz1 hz2 rfl (by decide) _ _ _ rfl hO ⟨b, off, none⟩ js.length cap (jnc js) rfl (by rw [jnc_len]) hnews (jnc_one js) (by unfold maxLen; omega) (by omega) (Nat.le_refl _) ?_; intro v' w1 hown1 hgrow _)
  have hb2 : Below w.heap.size w w1 := (Below.refl _ _).grown hgrow (Nat.le_refl _) (fun k hk => by cases hk)
  rw [Nat.zero_add, List.nil_append] at hown1
  go_wp2
  exact bodyPost_ret (v := v') (by simp [results, Tryd.results7, go_sem]) rfl ⟨v', rfl, hown1, hb2⟩
end Go.Proofs.YtlhoidkfphellabDoor

namespace Go.Proofs.YtlhoidkfphellabDoor
open Go.RowKit

/-- What the loop has made after k joints. -/
def PtS (w wr : World) (js : List Jn) (k : Nat) (s13 s14 : Value) : Prop :=
  ∃ (v : Nat → Value) (xs : Nat → List Jn), OwJ w wr v xs ∧ s13 = v 0 ∧ s14 = v 1 ∧ xs 0 = (js.drop (js.length - k)).reverse ∧ (xs 1).Sublist (js.take k)
theorem turned_step {js : List Jn} {k : Nat} (hk : k < js.length) : (js.drop (js.length - (k + 1))).reverse = (js.drop (js.length - k)).reverse ++ [js.getD (js.length - 1 - k) jz] := by
  have e : js.drop (js.length - (k + 1)) = js.getD (js.length - 1 - k) jz :: js.drop (js.length - k) := by
    rw [jgetD_at (by omega), show js.length - (k + 1) = js.length - 1 - k by omega, List.drop_eq_getElem_cons (by omega), show js.length - 1 - k + 1 = js.length - k by omega]
  rw [e, List.reverse_cons]
theorem jws_sub {js ys : List Jn} (h : JWs js) (hs : ys.Sublist js) : JWs ys := fun j hj => h j (hs.subset hj)
theorem find_own {js : List Jn} (h : OkJ js) {k : Nat} (hk : k < js.length) : fdA js (js.getD k jz).1 = (k, true) := by
  refine fd_some hk (fun i hi => ?_) ?_
  · unfold fdB
    have := List.pairwise_iff_getElem.1 h.unl i k (by omega) hk hi
    rw [jgetD_at (by omega), jgetD_at hk]
    simpa using this.1
  · unfold fdB; simp
theorem int_ne_c {a b : Int} (h : ¬ a = b) : (a == b) = false := by simpa using h
set_option maxRecDepth 100000 in
set_option maxHeartbeats 8000000 in
theorem parts_law (js : List Jn) (dr ag : Int) (ao : Option Addr) (cap : Nat) (w : World) (hT : TabW w) (hr : JRow w ao js) (hw : JWs js) (hc : js.length ≤ cap) (hn : js.length ≤ 4398046511104) :
    Calls Tryd.prog 3 #[.slice ao js.length cap, .int .i64 dr, .int .i64 ag] w fun e w' => e = .returned (.bool true) ∧ Below w.heap.size w w' := by
  have ca := jawake_any w hT
  have HR : Hid (JRow w ao js) := hr
  have HW : Hid (JWs js) := hw
  have cC := fun w' (h : JRow w' ao js) => check_any js ao cap w' h hw (by omega)
  have cc := ck_cases js
  clear hr
  obtain ⟨N, hN⟩ : ∃ N, js.length = N := ⟨_, rfl⟩
  have HN : Hid (js.length = N) := hN
  rw [hN] at cC hn hc ⊢
  go_enter Tryd.func3, Tryd.ntmps3
  go_upto_region 3 with (go_at_call 4; refine ca.mono ?_; rintro e w1 ⟨rfl, b1⟩)
  have c1 := cC w1 (HR.out.below b1)
  clear ca
  rcases cc with ⟨h1, h2⟩ | ⟨h1, k, hk, ha, hp, h2⟩ | ⟨hO, h2⟩
  · rw [h2] at c1
    rw [hN] at h1
    have i1 : (16 : Int) < (N : Int) := by omega
    clear h1 h2 hN cC
    go_wp2_with (go_at_call 5; refine c1.mono ?_; rintro e w2 ⟨rfl, b2⟩)
    go_ret
    exact ⟨rfl, b1.trans (b2.mono b1.size)⟩
  · rw [h2] at c1
    obtain ⟨t1, t2⟩ := bad_take h1 hk ha hp
    have l1 : (js.take k).length = k := by rw [List.length_take]; omega
    have l2 : (js.take (k + 1)).length = k + 1 := by rw [List.length_take]; omega
    have cP := fun w' (h : JRow w' ao (js.take k)) => check_any (js.take k) ao cap w' h (jws_sub hw (List.take_sublist _ _)) (by omega)
    have cQ := fun w' (h : JRow w' ao (js.take (k + 1))) => check_any (js.take (k + 1)) ao cap w' h (jws_sub hw (List.take_sublist _ _)) (by omega)
    rw [t1, l1] at cP
    rw [t2, l2] at cQ
    have HT2 : Hid (∀ w' m, JRow w' ao js → JRow w' ao (js.take m)) := fun w' m h => by
      rcases h with h | ⟨b, off, rfl, hc⟩
      · exact Or.inl (by rw [List.length_take]; omega)
      · refine Or.inr ⟨b, off, rfl, fun i hi => ?_⟩
        rw [List.length_take] at hi
        have := hc i (by omega)
        rw [show (js.take m).getD i jz = js.getD i jz by rw [List.getD_eq_getElem?_getD, List.getD_eq_getElem?_getD, List.getElem?_take_of_lt (by omega)]]
        exact this
    rw [hN] at hk h1
    have i1 : ¬ (k : Int) < 0 := by omega
    have i2 : ¬ (N : Int) ≤ (k : Int) := by omega
    have i3 : (k : Int) ≤ (cap : Int) := by omega
    have i4 : ((k : Int) + 1) ≤ (cap : Int) := by omega
    simp only at c1 cP cQ
    clear ha hp h2 t1 t2 l1 l2 hN cC
    go_upto_region 9 with (go_at_call 5; refine c1.mono ?_; rintro e w2 ⟨rfl, b2⟩)
    have hb2 := b1.trans (b2.mono b1.size)
    have c2 := cP w2 (HT2.out _ _ (HR.out.below hb2))
    clear c1 b1 b2 cP
    go_upto_region 10 with (go_at_call 5; refine c2.mono ?_; rintro e w3 ⟨rfl, b3⟩)
    have hb3 := hb2.trans (b3.mono hb2.size)
    have c3 := cQ w3 (HT2.out _ _ (HR.out.below hb3))
    clear c2 b3 hb2 cQ
    go_wp2_with (go_at_call 5; refine c3.mono ?_; rintro e w4 ⟨rfl, b4⟩)
    go_ret
    exact ⟨rfl, hb3.trans (b4.mono hb3.size)⟩
  · rw [h2] at c1
    simp only at c1
    have hl16 := hO.len
    rw [hN] at hl16
    have HO : Hid (OkJ js) := hO
    clear h2 hO hN
    go_upto_region 14 with (go_at_call 5; refine c1.mono ?_; rintro e w2 ⟨rfl, b2⟩)
    have hb2 := b1.trans (b2.mono b1.size)
    clear c1 b1 b2
    have st : PtS w2 w2 js 0 (.slice none 0 0) (.slice none 0 0) := ⟨_, _, OwJ.start (Below.refl _ _), rfl, rfl, by simp, List.nil_sublist _⟩
    go_loopg [15, 13, 14] N (fun g i s13 s14 wr => ∃ k : Nat, k ≤ N ∧ g = N - k ∧ i = .int .i64 k ∧ PtS w2 wr js k s13 s14)
    case atStart => exact ⟨0, by omega, rfl, rfl, st⟩
    case round =>
      obtain ⟨k, hk, hg, rfl, hS⟩ := hrel
      have HG : Hid (gk = N - k) := hg
      clear hg st
      obtain ⟨v, xs, hOw, rfl, rfl, e0, e1⟩ := hS
      have hbr := hb2.trans (hOw.below.mono hb2.size)
      by_cases hlt : k < N
      · have hkl : k < js.length := by rw [HN.out]; exact hlt
        have hrr := HR.out.below hbr
        rcases id hrr with h | ⟨b, off, rfl, hcl⟩
        · exact absurd (HN.out ▸ h) (by omega)
        obtain ⟨m, hm⟩ : ∃ m : Nat, m = N - 1 - k := ⟨_, rfl⟩
        have hml : m < js.length := by rw [HN.out]; omega
        have em : (N : Int) - 1 - (k : Int) = (m : Int) := by omega
        have wN : IntKind.i64.wrap ((N : Int) - 1) = (N : Int) - 1 := wrap_q (by omega) (by omega)
        have wM : IntKind.i64.wrap (m : Int) = (m : Int) := wrap_q (by omega) (by omega)
        obtain ⟨g0, g1, g2, g3⟩ := hcl k hkl
        have cF := find_any js (js.getD k jz).1 (some ⟨b, off, none⟩) cap wr hrr (by have := HN.out; omega)
        rw [find_own HO.out hkl, HN.out] at cF
        simp only at cF
        have i1 : (k : Int) < (N : Int) := by omega
        have i2 : ((k : Int) != (k : Int)) = false := by simp
        have i3 : (m : Int) < (N : Int) := by omega
        have i4 : k < N := hlt
        have i5 : m < N := by omega
        obtain ⟨pk, epk⟩ : ∃ p, js.getD k jz = p := ⟨_, rfl⟩
        obtain ⟨pm, epm⟩ : ∃ p, js.getD m jz = p := ⟨_, rfl⟩
        have HK : Hid (js.getD k jz = pk) := epk
        have HM : Hid (js.getD m jz = pm) := epm
        rw [epk] at g0 g1 g2 g3 cF
        have HCL : Hid (∀ w', Below wr.heap.size wr w' → ((w'.cell? ⟨b, off + m * 4, none⟩ = some (.string pm.1) ∧ w'.cell? ⟨b, off + m * 4 + 1, none⟩ = some (.int .i32 pm.2.1) ∧ w'.cell? ⟨b, off + m * 4 + 2, none⟩ = some (.int .i32 pm.2.2.1) ∧ w'.cell? ⟨b, off + m * 4 + 3, none⟩ = some (.int .u8 pm.2.2.2)) ∧
            (w'.cell? ⟨b, off + k * 4, none⟩ = some (.string pk.1) ∧ w'.cell? ⟨b, off + k * 4 + 1, none⟩ = some (.int .i32 pk.2.1) ∧ w'.cell? ⟨b, off + k * 4 + 2, none⟩ = some (.int .i32 pk.2.2.1) ∧ w'.cell? ⟨b, off + k * 4 + 3, none⟩ = some (.int .u8 pk.2.2.2)))) := fun w' hb' => by
          have hbm := hcl m hml
          have hbk := hcl k hkl
          rw [epm] at hbm
          rw [epk] at hbk
          have hq : b < wr.heap.size := World.block_lt_of_cell? wr _ hbm.1
          exact ⟨⟨(hb'.cell hq).trans hbm.1, (hb'.cell hq).trans hbm.2.1, (hb'.cell hq).trans hbm.2.2.1, (hb'.cell hq).trans hbm.2.2.2⟩, ⟨(hb'.cell hq).trans hbk.1, (hb'.cell hq).trans hbk.2.1, (hb'.cell hq).trans hbk.2.2.1, (hb'.cell hq).trans hbk.2.2.2⟩⟩
        clear hcl hm epk epm hbr
        go_upto_region 19 with (go_at_call 6; refine cF.mono ?_; rintro e w3 ⟨rfl, d3⟩)
        have hOw3 := hOw.later d3
        obtain ⟨⟨m0, m1, m2, m3⟩, ⟨k0, k1, k2, k3⟩⟩ := HCL.out w3 d3
        clear g0 g1 g2 g3 cF i2
        have hl0 : (xs 0).length ≤ 16 := by rw [e0, List.length_reverse, List.length_drop]; have := HN.out; omega
        have hl1 : (xs 1).length ≤ 16 := by have := e1.length_le; rw [List.length_take] at this; omega
        obtain ⟨v', w4, v2, xs2, hrun, hgr, hOw4, f1, f2, f3, f4, _⟩ := app_joint hOw3 0 pm (by omega)
        go_upto_region 20 with (at_builtin; refine append18_eq hrun rfl _ _ rfl rfl rfl rfl ?_)
        have hb4 := hb2.trans (hOw4.below.mono hb2.size)
        have q1 : v2 1 = v 1 := f2 1 (by omega)
        have q2 : xs2 1 = xs 1 := f4 1 (by omega)
        have HT0 : Hid (xs2 0 = (js.drop (js.length - (k + 1))).reverse) := (show _ = _ by rw [f3, e0, turned_step hkl, show js.length - 1 - k = m by have := HN.out; omega, HM.out])
        obtain ⟨r0, r1, r2, r3⟩ : w4.cell? ⟨b, off + k * 4, none⟩ = some (.string pk.1) ∧ w4.cell? ⟨b, off + k * 4 + 1, none⟩ = some (.int .i32 pk.2.1) ∧ w4.cell? ⟨b, off + k * 4 + 2, none⟩ = some (.int .i32 pk.2.2.1) ∧ w4.cell? ⟨b, off + k * 4 + 3, none⟩ = some (.int .u8 pk.2.2.2) := by
          rcases HR.out.below hb4 with h | ⟨b', off', e', hcl⟩
          · omega
          · cases e'
            have := hcl k hkl
            rw [HK.out] at this
            exact this
        have HS1 : Hid ((xs 1).Sublist (js.take (k + 1))) := e1.trans (List.take_sublist_take_left (by omega))
        have HS2 : Hid ((xs 1 ++ [pk]).Sublist (js.take (k + 1))) := by
          show (xs 1 ++ [pk]).Sublist (js.take (k + 1))
          rw [jtake_at hkl, HK.out]
          exact e1.append (List.Sublist.refl _)
        obtain ⟨v'', w5, v3, xs3, hrun2, _, hOw5, g1, g2, g3, g4, _⟩ := app_joint hOw4 1 pk (by rw [q2]; omega)
        rw [q1] at hrun2
        have HV0 : Hid (v' = v2 0) := f1.symm
        have HV3 : Hid (v3 0 = v2 0) := g2 0 (by omega)
        have HX3 : Hid (xs3 0 = xs2 0) := g4 0 (by omega)
        have HX1 : Hid (xs3 1 = xs 1 ++ [pk]) := g3.trans (by rw [q2])
        have HQ1 : Hid (v2 1 = v 1) := q1
        have HQ2 : Hid (xs2 1 = xs 1) := q2
        have HG1 : Hid (v3 1 = v'') := g1
        clear f1 f2 f3 f4 g1 g2 g3 g4 q1 q2 m0 m1 m2 m3 k0 k1 k2 k3 hrun hgr e0 e1 hrr em wN wM i3 i5 hml hl0 hl1
        go_wp2_with (at_builtin; refine append18_eq hrun2 rfl _ _ rfl rfl rfl rfl ?_)
        · go_roundg (N - (k + 1))
          case measure => rw [HG.out]; omega
          case rel => exact ⟨k + 1, by omega, rfl, by go_num, v3, xs3, hOw5, HV0.out.trans HV3.out.symm, HG1.out.symm, HX3.out.trans HT0.out, by rw [HX1.out]; exact HS2.out⟩
        · go_roundg (N - (k + 1))
          case measure => rw [HG.out]; omega
          case rel => exact ⟨k + 1, by omega, rfl, by go_num, v2, xs2, hOw4, HV0.out, HQ1.out.symm, HT0.out, by rw [HQ2.out]; exact HS1.out⟩
      · have ek : k = N := by omega
        subst ek
        have E0 : xs 0 = js.reverse := by rw [e0, show js.length - k = 0 by have := HN.out; omega]; rfl
        have E1 : (xs 1).Sublist js := e1.trans (List.take_sublist _ _)
        have ok0 : ckA (xs 0) = (0, 0) := by rw [E0]; exact ok_ck HO.out.reverse
        have ok1 : ckA (xs 1) = (0, 0) := ok_ck (HO.out.sub E1)
        have jw0 : JWs (xs 0) := by rw [E0]; exact fun j hj => hw j (List.mem_reverse.1 hj)
        have jw1 : JWs (xs 1) := jws_sub hw E1
        obtain ⟨bo, bc, ev0, r0⟩ := hOw.row 0
        obtain ⟨co, cc, ev1, r1⟩ := hOw.row 1
        have l0 : (xs 0).length ≤ 16 := by rw [E0, List.length_reverse]; have := HN.out; omega
        have l1 : (xs 1).length ≤ 16 := by have := E1.length_le; have := HN.out; omega
        have c0 := check_any (xs 0) bo bc wr r0 jw0 (by omega)
        have c1 := fun w' (h : JRow w' co (xs 1)) => check_any (xs 1) co cc w' h jw1 (by omega)
        rw [ok0] at c0
        rw [ok1] at c1
        simp only at c0 c1
        have i1 : ¬ (k : Int) < (k : Int) := by omega
        clear E0 E1 ok0 ok1 jw0 jw1 e0 e1 l0 l1
        rw [ev0, ev1]
        go_upto_region 23 with (go_at_call 5; refine c0.mono ?_; rintro e w3 ⟨rfl, d3⟩)
        have hb3 := hbr.trans (d3.mono hbr.size)
        have c2 := c1 w3 (r1.below d3)
        clear c0 c1 d3 r0 r1
        go_upto_region 26 with (go_at_call 5; refine c2.mono ?_; rintro e w4 ⟨rfl, d4⟩)
        have hb4 := hb3.trans (d4.mono hb3.size)
        clear c2 d4 hb3
        by_cases z0 : k = 0
        · subst z0
          go_wp2
          go_ret
          exact ⟨rfl, hb4⟩
        by_cases z1 : k = 16
        · subst z1
          go_wp2
          go_ret
          exact ⟨rfl, hb4⟩
        have hr4 := HR.out.below hb4
        have cY := copyJ_any js ao cap w4 hr4 (by have := HN.out; omega) (by have := HN.out; omega)
        have cI : ∀ w', Calls Tryd.prog 8 #[.int .i64 ag, .int .i64 k] w' fun e w'' => ∃ m : Nat, e = .returned (.int .i64 m) ∧ m < k ∧ w'' = w' := fun w' => (pick_n ag k (by omega) (by omega) w').mono fun e w'' h => by
          obtain ⟨mz, h1, h2, h3, h4⟩ := h
          obtain ⟨m, hm⟩ := Int.eq_ofNat_of_zero_le h2
          subst hm
          exact ⟨m, h1, by omega, h4⟩
        rw [HN.out] at cY
        have z2 : ((k : Int) == 0) = false := int_ne_c (by omega)
        have z3 : ((k : Int) == 16) = false := int_ne_c (by omega)
        clear i1
        go_upto_region 28 with fail
        have HZ : Hid (k ≠ 0 ∧ k ≠ 16) := ⟨z0, z1⟩
        clear z0 z1 z2 z3
        rcases id hr4 with h | ⟨b, off, rfl, hcl⟩
        · exact absurd (HN.out ▸ h) (by have := HZ.out; omega)
        have HCL : Hid (∀ w', Below w4.heap.size w4 w' → ∀ m, m < k → w'.cell? ⟨b, off + m * 4, none⟩ = some (.string (js.getD m jz).1) ∧ w'.cell? ⟨b, off + m * 4 + 1, none⟩ = some (.int .i32 (js.getD m jz).2.1) ∧ w'.cell? ⟨b, off + m * 4 + 2, none⟩ = some (.int .i32 (js.getD m jz).2.2.1) ∧ w'.cell? ⟨b, off + m * 4 + 3, none⟩ = some (.int .u8 (js.getD m jz).2.2.2)) := fun w' hb' m hm => by
          have hbm := hcl m (by rw [HN.out]; exact hm)
          have hq : b < w4.heap.size := World.block_lt_of_cell? w4 _ hbm.1
          exact ⟨(hb'.cell hq).trans hbm.1, (hb'.cell hq).trans hbm.2.1, (hb'.cell hq).trans hbm.2.2.1, (hb'.cell hq).trans hbm.2.2.2⟩
        have HAP : Hid (∀ (w5 : World) (v5 : Value), w5.ownsRow w4.heap.size 30 4 v5 k (jnc js) → Below w4.heap.size w4 w5 → ∀ m, m < k → ∃ v' w1 bo bc, ((Builtin.append_ #[22, 22] 22 #[v5, .slice (some ⟨w5.heap.size, 0, none⟩) 1 1]).run Tryd.prog (w5.alloc (.cells #[.string (js.getD m jz).1, .int .i32 (js.getD m jz).2.1, .int .i32 (js.getD m jz).2.2.1, .int .u8 (js.getD m jz).2.2.2] 30)) = .ok v' w1) ∧ v' = .slice bo (k + 1) bc ∧ JRow w1 bo (js ++ [js.getD m jz]) ∧ Below w4.heap.size w4 w1) := fun w5 v5 hown hb' m hm => by
          have hO1 := OwJ.one (w := w4) (wr := w5) (v := v5) (xs := js) (by rw [HN.out]; exact hown) hb'
          obtain ⟨v', w1, v2, xs2, hrun, _, hOw2, f1, _, f3, _, _⟩ := app_joint hO1 0 (js.getD m jz) (by simp only [if_true]; have := HN.out; omega)
          obtain ⟨bo2, bc2, ev, rr⟩ := hOw2.row 0
          rw [f3] at ev rr
          simp only [if_true] at ev rr hrun
          rw [List.length_append, HN.out] at ev
          exact ⟨v', w1, bo2, bc2, hrun, f1.symm.trans ev, rr, hOw2.below⟩
        clear hcl hr4
        go_upto_region 29 with (first
          | (go_at_call 7; refine cY.mono ?_; rintro e w5 ⟨v5, rfl, hown5, d5⟩)
          | (go_at_call 8; refine (cI _).mono ?_; rintro e w6 ⟨m, rfl, hmk, rfl⟩; have i9 : (m : Int) < (k : Int) := Int.ofNat_lt.2 hmk; obtain ⟨p0, p1, p2, p3⟩ := HCL.out _ d5 m hmk; obtain ⟨v', w7, bo2, bc2, hrun, ev', rr, d7⟩ := HAP.out _ v5 hown5 d5 m hmk)
          | (at_builtin; refine append18_eq hrun rfl _ _ rfl rfl rfl rfl ?_))
        have hpm : js.getD m jz ∈ js := by rw [jgetD_at (by rw [HN.out]; exact hmk)]; exact List.getElem_mem _
        have hmore := ok_more HO.out hpm (by have := HN.out; have := HZ.out; omega)
        have cM := check_any (js ++ [js.getD m jz]) bo2 bc2 w7 rr (fun j hj => by
          rcases List.mem_append.1 hj with h | h
          · exact hw j h
          · rw [List.mem_singleton] at h; rw [h]; exact hw _ hpm) (by rw [List.length_append, HN.out]; simp; omega)
        rw [hmore, List.length_append, HN.out] at cM
        simp only [List.length_singleton] at cM
        have hb7 := hb4.trans (d7.mono hb4.size)
        have z9 : ((k : Int) == (k : Int)) = true := by simp
        clear hmore hpm rr d7 hrun p0 p1 p2 p3 cY cI
        try rw [ev']
        go_wp2_with (go_at_call 5; refine cM.mono ?_; rintro e w8 ⟨rfl, d8⟩)
        go_ret
        exact ⟨rfl, hb7.trans (d8.mono hb7.size)⟩
end Go.Proofs.YtlhoidkfphellabDoor
