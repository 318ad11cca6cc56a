/- Plans moved, members turned about: what Springs tells of them, plain. -/
import Derived.Test.YtbfefoidpgbjaaaGreatDoorBG
import Derived.Test.YtbfefoidpgbjaaaGreatDoorTA
namespace Go.Proofs.YtbfefoidpgbjaaaGreatDoor
open Go.RowKit
theorem spK_congr (m : Mb) {p q p' q' : Jn} (h : aptA p q = aptA p' q') : spK m p q = spK m p' q' := by
 unfold spK l2F
 rw [h]
theorem sgAll_congr {f g : Nat → List Sg} : ∀ n, (∀ k, k < n → f k = g k) → sgAll f n = sgAll g n
 | 0, _ => rfl
 | n + 1, h => by rw [sgAll, sgAll, sgAll_congr n (fun k hk => h k (by omega)), h n (by omega)]
def mvJ (dx dy : Int) (j : Jn) : Jn := (j.1, j.2.1 + dx, j.2.2.1 + dy, j.2.2.2)
theorem apt_moved {dx dy : Int} {p q : Jn} (h1 : aptB p q = true) (h2 : aptB (mvJ dx dy p) (mvJ dx dy q) = true) : aptA p q = aptA (mvJ dx dy p) (mvJ dx dy q) := by
 unfold aptA
 rw [if_pos h1, if_pos h2]
 unfold mvJ
 simp only
 rw [show q.2.1 + dx - (p.2.1 + dx) = q.2.1 - p.2.1 by omega, show q.2.2.1 + dy - (p.2.2.1 + dy) = q.2.2.1 - p.2.2.1 by omega]
theorem apt_turned {p q : Jn} (h1 : aptB p q = true) (h2 : aptB q p = true) : aptA q p = (-(aptA p q).1, -(aptA p q).2.1, (aptA p q).2.2) := by
 unfold aptA
 rw [if_pos h1, if_pos h2]
 simp only
 have s : ∀ a b : Int, (a - b) * (a - b) = (b - a) * (b - a) := fun a b => by
  rw [← Int.neg_sub b a, Int.neg_mul_neg]
 refine Prod.ext (by simp only; omega) (Prod.ext (by simp only; omega) ?_)
 simp only
 rw [s p.2.1 q.2.1, s p.2.2.1 q.2.2.1]
def tnM (m : Mb) : Mb := { m with a := m.b, b := m.a, ha := m.hb, hb := m.ha }
def tnR (s : Sg) : Sg := { s with r := if s.k = 3 then ⟨0, 0, -s.r.r5, 0, 0, -s.r.r2⟩ else ⟨s.r.r3, s.r.r4, s.r.r5, s.r.r0, s.r.r1, s.r.r2⟩ }
theorem spK_turned (m : Mb) {p q : Jn} (h1 : aptB p q = true) (h2 : aptB q p = true) : spK m p q = (spK (tnM m) q p).map tnR := by
 have e := apt_turned h1 h2
 have el : l2F q p = l2F p q := by unfold l2F; rw [e]
 unfold spK
 simp only [e, el, tnM]
 obtain ⟨_, kd, _, _, ha, hb, _, _, _⟩ := m
 simp only
 by_cases h : kd = 1
 ·simp [h, tnR]
 ·cases ha <;> cases hb <;> simp [h, tnR, Int.neg_neg, Int.mul_neg] <;> omega
def bkR (k : Nat) (s : Sg) : Sg := if s.m = (k : Int) then tnR s else s
theorem sgAll_turned {f g : Nat → List Sg} {k : Nat} (hk : f k = (g k).map tnR) (hn : ∀ j, j ≠ k → f j = g j) : ∀ n, sgAll f n = (sgAll g n).map (bkR k)
 | 0 => rfl
 | n + 1 => by
  rw [sgAll, sgAll, List.map_append, ← sgAll_turned hk hn n]
  congr 1
  by_cases e : n = k
  ·subst e
   rw [hk, List.map_map, List.map_map]
   refine List.map_congr_left fun s _ => ?_
   by_cases h3 : s.k = 3 <;> simp [bkR, sgM, tnR, h3]
  ·rw [hn n e, List.map_map]
   refine List.map_congr_left fun s _ => ?_
   have : ¬ (n : Int) = (k : Int) := by omega
   simp [bkR, sgM, this]
def SkG (B : Int) (js : List Jn) : Prop := ∀ k, k < js.length → ∃ (x y : Int) (f : Nat), js.getD k jz = (sN 106 k, x, y, f) ∧ (-B ≤ x ∧ x ≤ B) ∧ (-B ≤ y ∧ y ≤ B) ∧ f < 8 ∧ ∀ q, q < k → ¬ ((js.getD q jz).2.1 = x ∧ (js.getD q jz).2.2.1 = y)
theorem SkJ.gen {js : List Jn} (h : SkJ js) (hn : js.length ≤ 4) : SkG 29 js := fun k hk => by
 obtain ⟨x, y, f, e, hx, hy, hf, hd⟩ := h k hk
 exact ⟨x, y, f, e, by omega, by omega, hf, hd⟩
def mvL (dx dy : Int) (js : List Jn) : List Jn := js.map (mvJ dx dy)
theorem mvL_len (dx dy : Int) (js : List Jn) : (mvL dx dy js).length = js.length := by simp [mvL]
theorem mvL_at {dx dy : Int} {js : List Jn} {k : Nat} (hk : k < js.length) : (mvL dx dy js).getD k jz = mvJ dx dy (js.getD k jz) := by
 simp [mvL, List.getD_eq_getElem?_getD, List.getElem?_eq_getElem hk]
theorem SkG.mv {B : Int} {js : List Jn} (h : SkG B js) {dx dy : Int} (hx : -524288 ≤ dx ∧ dx ≤ 524288) (hy : -524288 ≤ dy ∧ dy ≤ 524288) : SkG (B + 524288) (mvL dx dy js) := fun k hk => by
 rw [mvL_len] at hk
 obtain ⟨x, y, f, e, h1, h2, h3, hd⟩ := h k hk
 refine ⟨x + dx, y + dy, f, by rw [mvL_at hk, e]; rfl, by omega, by omega, h3, fun q hq => ?_⟩
 rw [mvL_at (by omega)]
 have := hd q hq
 unfold mvJ
 simp only
 omega
theorem SkG.ck {B : Int} {js : List Jn} (h : SkG B js) (hB : B ≤ 1048576) (hn : js.length ≤ 4) : ckA js = (0, 0) := ck_ok (by omega) fun i hi => by
 obtain ⟨x, y, f, e, hx, hy, hf, hd⟩ := h i hi
 unfold fB
 rw [e]
 simp only
 have h1 : hsN (js.take i) (sN 106 i) = false := by
  unfold hsN
  rw [List.any_eq_false]
  intro j hj
  obtain ⟨q, q1, q2, rfl⟩ := jtake_mem hj
  obtain ⟨x', y', f', e', _⟩ := h q q2
  rw [e']
  simp only [decide_eq_true_eq]
  exact sN_ne 0 ⟨q, by omega⟩ ⟨i, by omega⟩ (by simp; omega)
 have h2 : hsP (js.take i) x y = false := by
  unfold hsP
  rw [List.any_eq_false]
  intro j hj
  obtain ⟨q, q1, q2, rfl⟩ := jtake_mem hj
  simpa using hd q q1
 have h3 : myB (sN 106 i, x, y, f) = true := by
  unfold myB
  have := sN_nm 0 ⟨i, by omega⟩
  simp only [Fin.val_zero, Nat.mul_zero, Nat.add_zero] at this
  simp [this, crB]
  omega
 rw [h1, h2, h3]
 rfl
theorem SkG.cr {B : Int} {js : List Jn} (h : SkG B js) (hB : B ≤ 1048576) {a b : Nat} (ha : a < js.length) (hb : b < js.length) : aptB (js.getD a jz) (js.getD b jz) = true := by
 obtain ⟨x, y, f, e, h1, h2, _, _⟩ := h a ha
 obtain ⟨x', y', f', e', h1', h2', _, _⟩ := h b hb
 rw [e, e']
 unfold aptB
 simp [crB]
 omega
theorem SkG.jw {B : Int} {js : List Jn} (h : SkG B js) (hB : B ≤ 1048576) : JWs js := fun j hj => by
 obtain ⟨k, hk, rfl⟩ := List.getElem_of_mem hj
 obtain ⟨x, y, f, e, h1, h2, h3, _⟩ := h k hk
 rw [jgetD_at hk] at e
 rw [e]
 exact ⟨by show (2 : Nat) ≤ maxLen; unfold maxLen; omega, by show _ ≤ x; omega, by show x ≤ _; omega, by show _ ≤ y; omega, by show y ≤ _; omega, by show f < 256; omega⟩
theorem SkM.mw {n : Nat} {ms : List Mb} (h : SkM n ms) : MWs ms := fun j hj => by
 obtain ⟨k, hk, rfl⟩ := List.getElem_of_mem hj
 obtain ⟨m, e, _, _, _, _, _, _, _, hw⟩ := h k hk
 rw [mgetD_at hk] at e
 rw [e]
 exact hw
theorem sgAll_moved {B : Int} {js : List Jn} {ms : List Mb} (h : SkG B js) (hB : B + 524288 ≤ 1048576) (g : SkM js.length ms) {dx dy : Int} (hx : -524288 ≤ dx ∧ dx ≤ 524288) (hy : -524288 ≤ dy ∧ dy ≤ 524288) : sgAll (spM (mvL dx dy js) ms) ms.length = sgAll (spM js ms) ms.length := by
 refine (sgAll_congr _ fun k hk => ?_).symm
 obtain ⟨m, e, h0, h1, h2, h3, _⟩ := g k hk
 unfold spM
 rw [e]
 have ha : m.a.toNat < js.length := by omega
 have hb : m.b.toNat < js.length := by omega
 rw [mvL_at ha, mvL_at hb]
 refine spK_congr m (apt_moved (h.cr (by omega) ha hb) ?_)
 have := (h.mv hx hy).cr (by omega) (a := m.a.toNat) (b := m.b.toNat) (by rw [mvL_len]; exact ha) (by rw [mvL_len]; exact hb)
 rw [mvL_at ha, mvL_at hb] at this
 exact this
def tnL (k : Nat) (ms : List Mb) : List Mb := ms.set k (tnM (ms.getD k mz))
theorem tnL_len (k : Nat) (ms : List Mb) : (tnL k ms).length = ms.length := by simp [tnL]
theorem tnL_at {k j : Nat} {ms : List Mb} (hk : k < ms.length) : (tnL k ms).getD j mz = if j = k then tnM (ms.getD k mz) else ms.getD j mz := by
 unfold tnL
 rw [List.getD_eq_getElem?_getD, List.getElem?_set]
 by_cases e : j = k
 ·subst e; simp [hk]
 ·rw [if_neg (fun q => e q.symm), if_neg e, ← List.getD_eq_getElem?_getD]
theorem SkM.turn {n : Nat} {ms : List Mb} (h : SkM n ms) {k : Nat} (hk : k < ms.length) : SkM n (tnL k ms) := fun j hj => by
 rw [tnL_len] at hj
 rw [tnL_at hk]
 by_cases e : j = k
 ·subst e
  rw [if_pos rfl]
  obtain ⟨m, em, h0, h1, h2, h3, h4, h5, h6, h7⟩ := h j hj
  rw [em]
  refine ⟨_, rfl, h0, h2, h1, fun q => h3 q.symm, h4, h5, ?_, ⟨h7.s, h7.k, h7.b0, h7.b1, h7.a0, h7.a1, h7.e, h7.ar, h7.i⟩⟩
  rcases h6 with ⟨a, b, c, d⟩ | q
  ·exact Or.inl ⟨a, c, b, d⟩
  ·exact Or.inr q
 ·rw [if_neg e]
  exact h j hj
theorem sgAll_back {B : Int} {js : List Jn} {ms : List Mb} (h : SkG B js) (hB : B ≤ 1048576) (g : SkM js.length ms) {k : Nat} (hk : k < ms.length) (n : Nat) : sgAll (spM js ms) n = (sgAll (spM js (tnL k ms)) n).map (bkR k) := by
 refine sgAll_turned ?_ (fun j hj => ?_) n
 ·obtain ⟨m, e, _, h1, h2, _⟩ := g k hk
  unfold spM
  rw [tnL_at hk, if_pos rfl, e]
  exact spK_turned m (h.cr hB (by omega) (by omega)) (h.cr hB (by omega) (by omega))
 ·unfold spM
  rw [tnL_at hk, if_neg hj]
theorem sg3_spK (m : Mb) (p q : Jn) : ∀ s, s ∈ spK m p q → s.k = 3 → s.r = ⟨0, 0, 1, 0, 0, -1⟩ := by
 intro s hs hk
 unfold spK at hs
 simp only at hs
 split at hs
 ·simp only [List.mem_singleton] at hs; subst hs; simp at hk
 ·split at hs
  ·simp only [List.mem_cons, List.not_mem_nil, or_false] at hs
   rcases hs with rfl | rfl <;> simp at hk
  ·split at hs
   ·simp only [List.mem_cons, List.not_mem_nil, or_false] at hs
    rcases hs with rfl | rfl <;> simp at hk
   ·simp only [List.mem_cons, List.not_mem_nil, or_false] at hs
    rcases hs with rfl | rfl | rfl
    ·simp at hk
    ·simp at hk
    ·rfl
theorem sg3_all (js : List Jn) (ms : List Mb) : ∀ n s, s ∈ sgAll (spM js ms) n → s.k = 3 → s.r = ⟨0, 0, 1, 0, 0, -1⟩
 | 0, s, h, _ => by simp [sgAll] at h
 | n + 1, s, h, hk => by
  rw [sgAll, List.mem_append] at h
  rcases h with h | h
  ·exact sg3_all js ms n s h hk
  ·obtain ⟨u, hu, rfl⟩ := List.mem_map.1 h
   exact sg3_spK _ _ _ u hu hk
theorem sgetD_mem {l : List Sg} {k : Nat} (hk : k < l.length) : l.getD k sgz ∈ l := by
 have e : l.getD k sgz = l[k] := by simp [List.getD, hk]
 rw [e]
 exact List.getElem_mem hk
theorem sgetD_map {l : List Sg} {f : Sg → Sg} {k : Nat} (hk : k < l.length) : (l.map f).getD k sgz = f (l.getD k sgz) := by
 simp [List.getD_eq_getElem?_getD, List.getElem?_eq_getElem hk]
end Go.Proofs.YtbfefoidpgbjaaaGreatDoor
