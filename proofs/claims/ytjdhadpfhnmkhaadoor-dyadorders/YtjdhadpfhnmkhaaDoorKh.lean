/- A dyad in a box that is written again: the box, its marks, and what stays around it. -/
import Derived.Test.YtjdhadpfhnmkhaaDoorHb
namespace Go.Proofs.YtjdhadpfhnmkhaaDoor
open Go.RowKit

/-- A dyad in a box not older than n, which may be written. -/
structure Bx (w : World) (n P : Nat) (d : Dy) (o : Option Addr) (c : Nat) : Prop where
  hd : Hd w P d o c
  lo : n ≤ P
  marks : w.frozen? ⟨P, 0, none⟩ = false ∧ w.frozen? ⟨P, 1, none⟩ = false ∧ w.frozen? ⟨P, 2, none⟩ = false
theorem Bx.below {w w' : World} {n P : Nat} {d : Dy} {o : Option Addr} {c : Nat} (h : Bx w n P d o c) (hb : Below w.heap.size w w') : Bx w' n P d o c :=
  ⟨h.hd.below hb, h.lo, by obtain ⟨a0, _, _, _⟩ := h.hd; exact marks_on hb a0 h.marks⟩
theorem Bx.new {w : World} {n : Nat} {d : Dy} {o : Option Addr} {c : Nat} (h : LRow w o d.mag) (hn : n ≤ w.heap.size) : Bx (w.alloc (dyO d o c)) n w.heap.size d o c :=
  ⟨Hd.new h, hn, by refine ⟨?_, ?_, ?_⟩ <;> go_simp⟩
/-- A row of limbs older than n. -/
def Old (n : Nat) (o : Option Addr) (d : Dy) : Prop := ∀ b off, o = some ⟨b, off, none⟩ → d.mag.length ≠ 0 → b < n
theorem old_of {w : World} {o : Option Addr} {d : Dy} (h : LRow w o d.mag) : Old w.heap.size o d := by
  intro b off e hn
  rcases h with h | ⟨b', off', e', hc⟩
  · exact absurd h hn
  · rw [e] at e'
    obtain ⟨rfl, rfl⟩ : b = b' ∧ off = off' := by simpa using e'
    exact World.block_lt_of_cell? w _ (hc 0 (by omega))
theorem Hd.lt {w : World} {P : Nat} {d : Dy} {o : Option Addr} {c : Nat} (h : Hd w P d o c) : P < w.heap.size := by
  obtain ⟨a0, _, _, _⟩ := h
  exact World.block_lt_of_cell? w _ a0
/-- The three cells of one box turned. -/
abbrev put3 (w : World) (P : Nat) (v0 v1 v2 : Value) : World := ((w.setCell ⟨P, 0, none⟩ v0).setCell ⟨P, 1, none⟩ v1).setCell ⟨P, 2, none⟩ v2
theorem LRow.put3 {w : World} {o : Option Addr} {d : Dy} {P : Nat} {v0 v1 v2 : Value} (h : LRow w o d.mag) (hne : ∀ b off, o = some ⟨b, off, none⟩ → d.mag.length ≠ 0 → b ≠ P) : LRow (put3 w P v0 v1 v2) o d.mag :=
  ((h.setCell v0 hne).setCell v1 hne).setCell v2 hne
theorem Hd.put3 {w : World} {Q P : Nat} {d : Dy} {o : Option Addr} {c : Nat} {v0 v1 v2 : Value} (h : Hd w Q d o c) (hq : Q ≠ P) (hne : ∀ b off, o = some ⟨b, off, none⟩ → d.mag.length ≠ 0 → b ≠ P) : Hd (put3 w P v0 v1 v2) Q d o c := by
  obtain ⟨a0, a1, a2, ar⟩ := h
  exact ⟨by go_simp, by go_simp, by go_simp, ar.put3 hne⟩
theorem Hd.put {w : World} {P : Nat} {d : Dy} {o : Option Addr} {c : Nat} (h : LRow w o d.mag) (hne : ∀ b off, o = some ⟨b, off, none⟩ → d.mag.length ≠ 0 → b ≠ P)
    {x0 x1 x2 : Value} (c0 : w.cell? ⟨P, 0, none⟩ = some x0) (c1 : w.cell? ⟨P, 1, none⟩ = some x1) (c2 : w.cell? ⟨P, 2, none⟩ = some x2) :
    Hd (Go.Proofs.YtjdhadpfhnmkhaaDoor.put3 w P (.bool d.neg) (.slice o d.mag.length c) (.int .i64 d.exp)) P d o c := by
  exact ⟨by go_simp, by go_simp, by go_simp, h.put3 hne⟩
theorem Bx.put3 {w : World} {n Q P : Nat} {d : Dy} {o : Option Addr} {c : Nat} {v0 v1 v2 : Value} (h : Bx w n Q d o c) (hq : Q ≠ P) (hne : ∀ b off, o = some ⟨b, off, none⟩ → d.mag.length ≠ 0 → b ≠ P) : Bx (Go.Proofs.YtjdhadpfhnmkhaaDoor.put3 w P v0 v1 v2) n Q d o c := by
  obtain ⟨hd, lo, m0, m1, m2⟩ := h
  exact ⟨hd.put3 hq hne, lo, by go_simp, by go_simp, by go_simp⟩
theorem put3_old {w w1 : World} {P : Nat} {v0 v1 v2 : Value} (h : Below w.heap.size w w1) (hP : w.heap.size ≤ P) : Below w.heap.size w (put3 w1 P v0 v1 v2) :=
  ((h.setCell hP _).setCell hP _).setCell hP _
end Go.Proofs.YtjdhadpfhnmkhaaDoor
