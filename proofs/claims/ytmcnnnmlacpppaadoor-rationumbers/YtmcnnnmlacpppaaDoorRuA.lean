/- append of one limb to a row of sixteen that was made. -/
import Derived.Test.YtmcnnnmlacpppaaDoorRuQ
import Derived.Test.YtmcnnnmlacpppaaDoorZl
namespace Go.Proofs.YtmcnnnmlacpppaaDoor
open Go.RowKit

theorem append7_eq {ops : Array Oper} {rest : List Oper} {o : Oper} {a : Act} {Q : Exit → Act → World → Prop} {w w' : World} {t ty : TypeId} {v u v' : Value} (hr : (Builtin.append_ #[t, t] ty #[v, u]).run Tryd.prog w = .ok v' w') (hgd : o.guard = none) (s x : Operand)
    (ho : o.op = .call { callee := .builtin .append, args := #[s, x], argTypes := #[t, t] }) (hty : o.type = ty) (hs : a.eval s = v) (hx : a.eval x = u) (h : wpList Tryd.prog ops Q rest (a.put o.dst v') w') : wpList Tryd.prog ops Q (o :: rest) a w := by
  subst hty
  refine wpList_plain hgd fun K hK => ?_
  unfold Oper.wp execOp
  simp only [ho, resolve, invoke, builtin, Sem.run_bind, Sem.run_pure, Result.andThen_ok, List.map_toArray, List.map_cons, List.map_nil, hs, hx, hr]
  exact hK _ _ h
theorem owned_LS {w : World} {base : Nat} {t : TypeId} {v : Value} {xs : List Nat} (h : w.ownsRow base t 1 v xs.length (uv xs)) : ∃ ao cap, v = .slice ao xs.length cap ∧ LS w ao cap xs := by
  obtain ⟨ao, cap, rfl, h1, h2, _⟩ := owned_lrow h
  refine ⟨ao, cap, rfl, h1, ?_, h2⟩
  rcases h.2 with ⟨e, hn⟩ | ⟨g, c, cur, e, _, _, hc, _⟩
  · omega
  · cases e; exact hc
theorem app_small (W : World) : ∃ (ao : Option Addr) (cap : Nat) (w1 : World), (Builtin.append_ #[23, 23] 23 #[.slice (some ⟨W.heap.size, 0, none⟩) 16 16, .slice (some ⟨W.heap.size + 1, 0, none⟩) 1 1]).run Tryd.prog ((W.alloc (.cells (madeCells #[.int .u64 0] 16) 22)).alloc (.cells #[.int .u64 2251799813685248] 22)) = .ok (.slice ao 17 cap) w1 ∧ LS w1 ao cap (List.replicate 16 0 ++ [2251799813685248]) ∧ Below W.heap.size W w1 := by
  obtain ⟨i0, hi, hz0, hz1, hz2⟩ := info_parts Tryd.infoU
  have ho := World.ownsRow_lit (base := W.heap.size) (e := 22) (size := 1) W (madeCells #[.int .u64 0] 16) 16 (Nat.le_refl _) (by unfold maxLen; omega) (size_madeCells _ _)
  have hs : (W.alloc (.cells (madeCells #[.int .u64 0] 16) 22)).heap.size = W.heap.size + 1 := by simp
  have hb := ((Below.refl W.heap.size W).alloc (Nat.le_refl _) (.cells (madeCells #[.int .u64 0] 16) 22))
  have hnews : ∀ (j : Nat) (u : Value), [Value.int .u64 2251799813685248][j]? = some u → ((W.alloc (.cells (madeCells #[.int .u64 0] 16) 22)).alloc (.cells #[.int .u64 2251799813685248] 22)).cell? (Addr.add ⟨W.heap.size + 1, 0, none⟩ j) = some u := fun j u hu => by
    cases j with
    | zero =>
      simp at hu
      subst hu
      rw [← hs]
      simp only [Addr.add]
      go_simp
    | succ j => simp at hu
  obtain ⟨v', w1, e1, e2, e3, _, _⟩ := run_append_own_at (P := Tryd.prog) ((W.alloc (.cells (madeCells #[.int .u64 0] 16) 22)).alloc (.cells #[.int .u64 2251799813685248] 22)) W.heap.size 23 23 22 i0 (.int .u64 0) 1 8 Tryd.underlying23 hi hz0 hz1 hz2 rfl (by decide) _ 16 _ (ho.alloc _) ⟨W.heap.size + 1, 0, none⟩ 1 1 [.int .u64 2251799813685248] rfl (hnews) (by simp [Value.oneCell']) (by unfold maxLen; omega) (by omega) (by simp; omega)
  have e2' : w1.ownsRow W.heap.size 22 1 v' (List.replicate 16 0 ++ [2251799813685248]).length (uv (List.replicate 16 0 ++ [2251799813685248])) := by
    have : uv (List.replicate 16 0 ++ [2251799813685248]) = (madeCells #[.int .u64 0] 16).toList ++ [.int .u64 2251799813685248] := by kernel_rfl
    rw [this]
    exact e2
  obtain ⟨ao, cap, rfl, h1⟩ := owned_LS e2'
  exact ⟨ao, cap, w1, e1, h1, ((hb.alloc hb.size _).grown e3 (by simp; omega) (fun k hk => (ho.lt k hk).1))⟩
end Go.Proofs.YtmcnnnmlacpppaaDoor
