/- Layer 14, plain: what Left, onceMore and Until tell, and what follows. -/
import Derived.Test.YtmbcmhncicbbjaaGreatDoorRB
import Derived.Test.YtmbcmhncicbbjaaGreatDoorU4
import Derived.Test.YtmbcmhncicbbjaaGreatDoorS2
namespace Go.Proofs.YtmbcmhncicbbjaaGreatDoor
open Go.RowKit

/-- A finite float with its sign turned, as the product by -1 tells it. -/
def ngW (x : Nat) : Nat := Ieee.double.word (true ^^ sgn x) (rung x)
/-- What is left of b in one row. -/
def lfW (row xs : List Nat) (b : Nat) : Nat := dxW (row.map ngW ++ [4607182418800017408]) (xs ++ [b]) 0
/-- Row i. -/
def rwL (C : Nat) (ms : List Nat) (i : Nat) : List Nat := toL' C (fun j => ms.getD (i * C + j) 0)
theorem rwL_len (C : Nat) (ms : List Nat) (i : Nat) : (rwL C ms i).length = C := toL'_len _ _
theorem rwL_at {C : Nat} {ms : List Nat} {i j : Nat} (h : j < C) : (rwL C ms i).getD j 0 = ms.getD (i * C + j) 0 := toL'_at h
def lfL (R C : Nat) (ms xs bs : List Nat) : List Nat := toL' R (fun i => lfW (rwL C ms i) xs (bs.getD i 0))
def fit14 (r c : Int) (mn xn bn : Nat) : Bool := rightM r c mn && decide ((xn : Int) = c) && decide ((bn : Int) = r)
/-- What Left answers. -/
def lfA (r c : Int) (ms xs bs : List Nat) : List Nat × Int :=
  if fit14 r c ms.length xs.length bs.length then (if ms.all finB && (xs.all finB && bs.all finB) then (if (lfL r.toNat c.toNat ms xs bs).all finB then (lfL r.toNat c.toNat ms xs bs, 0) else ([], 6)) else ([], 5)) else ([], 4)
/-- A number, a NaN as none. -/
def nO (o : Option Nat) : Option Nat := o.bind toO
theorem NR_nO {o : Option Nat} {r : Nat} (h : NR o r) : toO r = nO o := by
  cases o with
  | none =>
    have h2 : nanB r = true := h.2
    unfold toO; rw [h2]; rfl
  | some v =>
    have h2 : r = v := h.2
    subst h2; rfl
def fiO (o : Option Nat) : Bool := match o with | some v => finB v | none => false
def valO (o : Option Nat) : Nat := o.getD 0
theorem NR_fin {o : Option Nat} {r : Nat} (h : NR o r) : finB r = fiO o ∧ (fiO o = true → r = valO o) := by
  cases o with
  | none =>
    have h2 : nanB r = true := h.2
    exact ⟨vnan_fin h2, fun h => by cases h⟩
  | some v =>
    have h2 : r = v := h.2
    subst h2; exact ⟨rfl, fun _ => rfl⟩
theorem LN_all {os : List (Option Nat)} {rs : List Nat} (h : LN os rs) : rs.all finB = os.all fiO := by
  obtain ⟨hl, h⟩ := h
  induction os generalizing rs with
  | nil =>
    have : rs = [] := List.length_eq_zero_iff.1 hl
    subst this; rfl
  | cons o os ih =>
    cases rs with
    | nil => simp at hl
    | cons r rs =>
      have h0 : NR o r := h 0 (by simp)
      have := ih (by simpa using hl) (fun i hi => by simpa using h (i + 1) (by simpa using hi))
      simp only [List.all_cons]
      rw [this, (NR_fin h0).1]
theorem LN_val {os : List (Option Nat)} {rs : List Nat} (h : LN os rs) (hf : os.all fiO = true) : rs = os.map valO := by
  obtain ⟨hl, h⟩ := h
  induction os generalizing rs with
  | nil => exact List.length_eq_zero_iff.1 hl
  | cons o os ih =>
    cases rs with
    | nil => simp at hl
    | cons r rs =>
      have h0 : NR o r := h 0 (by simp)
      rw [List.all_cons, Bool.and_eq_true] at hf
      have := ih hf.2 (by simpa using hl) (fun i hi => by simpa using h (i + 1) (by simpa using hi))
      rw [List.map_cons, ← this, (NR_fin h0).2 hf.1]
/-- What Solve makes of finite numbers. -/
def sv14 (n : Int) (ls ds lf : List Nat) : List (Option Nat) × Int := slA n ls ds lf.length (fun i => toO (lf.getD i 0))
def adP (xs : List Nat) (os : List (Option Nat)) : List (Option Nat) := tab xs.length (fun i => opO .add (toO (xs.getD i 0)) (nO (os.getD i none)))
/-- What onceMore answers. -/
def omA (n : Int) (ls ds xs lf : List Nat) : List Nat × Int :=
  if (sv14 n ls ds lf).2 = 0 then
    (if fitN xs.length (sv14 n ls ds lf).1.length = 0 then
      (if (adP xs (sv14 n ls ds lf).1).all fiO then ((adP xs (sv14 n ls ds lf).1).map valO, 0) else ([], 6))
    else ([], fitN xs.length (sv14 n ls ds lf).1.length))
  else ([], (sv14 n ls ds lf).2)
/-- The norm of a list; is one less than another? -/
def nv (l : List Nat) : Option Nat := nrO l l.length
def ltO (o p : Option Nat) : Bool := match o, p with
  | some u, some v => FloatKind.f64.format.order u v == some .lt
  | _, _ => false
theorem nan_order {x y : Nat} (hx : x < 18446744073709551616) (hy : y < 18446744073709551616) (h : nanB x = true ∨ nanB y = true) : FloatKind.f64.format.order x y = none := by
  show Ieee.double.order x y = none
  rw [order_eq x y hx hy, if_pos]
  rcases h with h | h
  · rw [h]; rfl
  · rw [h, Bool.or_true]
theorem NR_lt {o p : Option Nat} {r s : Nat} (h : NR o r) (g : NR p s) : (FloatKind.f64.format.order r s == some .lt) = ltO o p := by
  cases o with
  | none =>
    rw [nan_order h.1 g.1 (Or.inl h.2)]; rfl
  | some u =>
    cases p with
    | none => rw [nan_order h.1 g.1 (Or.inr g.2)]; rfl
    | some v =>
      have e1 : r = u := h.2
      have e2 : s = v := g.2
      subst e1 e2; rfl
/-- One step of Until: none where it ends. -/
def nx14 (r c : Int) (ms : List Nat) (n : Int) (ls ds bs : List Nat) (s : List Nat × List Nat) : Option (List Nat × List Nat) :=
  if (omA n ls ds s.1 s.2).2 = 0 then
    (if (lfA r c ms (omA n ls ds s.1 s.2).1 bs).2 = 0 then
      (if ltO (nv (lfA r c ms (omA n ls ds s.1 s.2).1 bs).1) (nv s.2) then some ((omA n ls ds s.1 s.2).1, (lfA r c ms (omA n ls ds s.1 s.2).1 bs).1) else none)
    else none)
  else none
/-- At most so many steps: where they end, and how many counted. -/
def run14 {S : Type} (nx : S → Option S) : Nat → S → S × Nat
  | 0, s => (s, 0)
  | k + 1, s => match nx s with
    | none => (s, 0)
    | some t => ((run14 nx k t).1, (run14 nx k t).2 + 1)
theorem run14_none {S : Type} {nx : S → Option S} {s : S} (h : nx s = none) (k : Nat) : run14 nx k s = (s, 0) := by
  cases k with
  | zero => rfl
  | succ k => unfold run14; rw [h]
theorem run14_some {S : Type} {nx : S → Option S} {s t : S} (h : nx s = some t) (k : Nat) : run14 nx (k + 1) s = ((run14 nx k t).1, (run14 nx k t).2 + 1) := by
  conv => lhs; unfold run14
  rw [h]
theorem run14_le {S : Type} (nx : S → Option S) : ∀ k s, (run14 nx k s).2 ≤ k
  | 0, _ => Nat.le_refl _
  | k + 1, s => by
    cases h : nx s with
    | none => rw [run14_none h]; exact Nat.zero_le _
    | some t => rw [run14_some h]; exact Nat.succ_le_succ (run14_le nx k t)
/-- One step more allowed: the same, or one that counts. -/
theorem run14_more {S : Type} (nx : S → Option S) : ∀ k s, run14 nx (k + 1) s = run14 nx k s ∨ ((run14 nx k s).2 = k ∧ ∃ t, nx (run14 nx k s).1 = some t ∧ run14 nx (k + 1) s = (t, k + 1))
  | 0, s => by
    cases h : nx s with
    | none => left; rw [run14_none h, run14_none h]
    | some t => right; exact ⟨rfl, t, h, by rw [run14_some h]; rfl⟩
  | k + 1, s => by
    cases h : nx s with
    | none => left; rw [run14_none h, run14_none h]
    | some t =>
      rw [run14_some h, run14_some h]
      rcases run14_more nx k t with g | ⟨g1, u, g2, g3⟩
      · left; rw [g]
      · right; exact ⟨by rw [g1], u, g2, by rw [g3]⟩
/-- What holds of each step, and goes on, holds from the first to the last. -/
theorem run14_rel {S : Type} (nx : S → Option S) (R : S → S → Prop) (h1 : ∀ s t, nx s = some t → R s t) (h2 : ∀ s t u, R s t → R t u → R s u) : ∀ k s, (run14 nx k s).2 = 0 ∧ (run14 nx k s).1 = s ∨ 0 < (run14 nx k s).2 ∧ R s (run14 nx k s).1
  | 0, _ => Or.inl ⟨rfl, rfl⟩
  | k + 1, s => by
    cases h : nx s with
    | none => rw [run14_none h]; exact Or.inl ⟨rfl, rfl⟩
    | some t =>
      rw [run14_some h]
      rcases run14_rel nx R h1 h2 k t with ⟨_, g⟩ | ⟨_, g⟩
      · exact Or.inr ⟨Nat.succ_pos _, by rw [g]; exact h1 _ _ h⟩
      · exact Or.inr ⟨Nat.succ_pos _, h2 _ _ _ (h1 _ _ h) g⟩
/-- What holds at the start and is kept by each step holds at the end. -/
theorem run14_inv {S : Type} (nx : S → Option S) (I : S → Prop) (h1 : ∀ s t, nx s = some t → I s → I t) : ∀ k s, I s → I (run14 nx k s).1
  | 0, _, h => h
  | k + 1, s, h => by
    cases g : nx s with
    | none => rw [run14_none g]; exact h
    | some t => rw [run14_some g]; exact run14_inv nx I h1 k t (h1 _ _ g h)
def fits14 (r c : Int) (mn : Nat) (n : Int) (ln dn bn : Nat) : Bool := rightM r c mn && (rightF n ln dn && decide (r = n) && decide (c = n)) && decide ((bn : Int) = r)
/-- The first solution, what it leaves, and the error. -/
def fi14 (r c : Int) (ms : List Nat) (n : Int) (ls ds bs : List Nat) : (List Nat × List Nat) × Int :=
  if (sv14 n ls ds bs).2 = 0 then
    (if (sv14 n ls ds bs).1.all fiO then
      (((sv14 n ls ds bs).1.map valO, (lfA r c ms ((sv14 n ls ds bs).1.map valO) bs).1), (lfA r c ms ((sv14 n ls ds bs).1.map valO) bs).2)
    else (([], []), 6))
  else (([], []), (sv14 n ls ds bs).2)
/-- What Until answers. -/
def unE (r c : Int) (ms : List Nat) (n : Int) (ls ds bs : List Nat) : Int :=
  if fits14 r c ms.length n ls.length ds.length bs.length then (if ms.all finB && bs.all finB then (fi14 r c ms n ls ds bs).2 else 5) else 4
def unR (r c : Int) (ms : List Nat) (n : Int) (ls ds bs : List Nat) (k : Nat) : (List Nat × List Nat) × Nat := run14 (nx14 r c ms n ls ds bs) k (fi14 r c ms n ls ds bs).1
def unA (r c : Int) (ms : List Nat) (n : Int) (ls ds bs : List Nat) (k : Nat) : List Nat × Nat × Int :=
  if unE r c ms n ls ds bs = 0 then ((unR r c ms n ls ds bs k).1.1, (unR r c ms n ls ds bs k).2, 0) else ([], 0, unE r c ms n ls ds bs)
end Go.Proofs.YtmbcmhncicbbjaaGreatDoor
