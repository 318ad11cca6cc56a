/- What awake of layer 9 answers. -/
import Derived.Test.YtmbcmhncicbbjaaGreatDoorU4
import Derived.Deep.QuietTactic
import Derived.BigQuiet
import Derived.Deep.RegionLaw
namespace Go.Proofs.YtmbcmhncicbbjaaGreatDoor
open Go.RowKit

end Go.Proofs.YtmbcmhncicbbjaaGreatDoor

namespace Go.Proofs.YtmbcmhncicbbjaaGreatDoor
open Go.RowKit

theorem GaveF.up {w0 w w' : World} {os : List (Option Nat)} {v : Value} (h : GaveF w os v w') (hb : Below w0.heap.size w0 w) : GaveF w0 os v w' := by
  obtain ⟨ao, cap, rs, h1, h2, h3, h4, h5, h6⟩ := h
  exact ⟨ao, cap, rs, h1, h2, h3, h4, h5.mono hb.size, hb.trans (h6.mono hb.size)⟩
theorem al_two {w : World} (x y : Value) (s t : TypeId) : ((w.alloc (.cells #[x] s)).alloc (.cells #[y] t)).cell? ⟨w.heap.size, 0, none⟩ = some x ∧ ((w.alloc (.cells #[x] s)).alloc (.cells #[y] t)).cell? ⟨w.heap.size + 1, 0, none⟩ = some y ∧ Below w.heap.size w ((w.alloc (.cells #[x] s)).alloc (.cells #[y] t)) := by
  refine ⟨by go_simp, by go_simp, ((Below.refl _ _).alloc (Nat.le_refl _) _).alloc (by simp) _⟩
theorem al_three {w : World} (x y z : Value) (s t u : TypeId) : (((w.alloc (.cells #[x] s)).alloc (.cells #[y] t)).alloc (.cells #[z] u)).cell? ⟨w.heap.size, 0, none⟩ = some x ∧ (((w.alloc (.cells #[x] s)).alloc (.cells #[y] t)).alloc (.cells #[z] u)).cell? ⟨w.heap.size + 1, 0, none⟩ = some y ∧ (((w.alloc (.cells #[x] s)).alloc (.cells #[y] t)).alloc (.cells #[z] u)).cell? ⟨w.heap.size + 1 + 1, 0, none⟩ = some z ∧ Below w.heap.size w (((w.alloc (.cells #[x] s)).alloc (.cells #[y] t)).alloc (.cells #[z] u)) := by
  refine ⟨by go_simp, by go_simp, by go_simp, (((Below.refl _ _).alloc (Nat.le_refl _) _).alloc (by simp) _).alloc (by simp; omega) _⟩
theorem fit_len {n k : Nat} (h : fitN n k = 0) : k = n := by
  unfold fitN at h
  split at h
  · omega
  · omega
set_option maxHeartbeats 400000 in
theorem vadd_any (xs ys : List Nat) (ao bo : Option Addr) (cap cap2 : Nat) (w : World) (hr : GRow w ao xs) (hs : GRow w bo ys) (hF : FW xs) (hG : FW ys) (hn : xs.length ≤ 17592186044416) (hm : ys.length ≤ 17592186044416) :
    Calls Tryz.prog 69 #[.slice ao xs.length cap, .slice bo ys.length cap2] w fun e w' => ∃ v, e = .returned (.tuple #[v, .int .i64 (fitN xs.length ys.length)]) ∧ GaveF w (ifFit xs.length ys.length (tab xs.length (adO xs ys))) v w' := by
  obtain ⟨t1, t2, t3⟩ := al_two (w := w) (.slice ao xs.length cap) (.slice bo ys.length cap2) 22 22
  have g1 := hr.below t3
  have g2 := hs.below t3
  have ct := tog_add (adO xs ys) xs.length ys.length cap cap2 _ _ ao bo _ hn hm (fun hq => add1_all xs ys ao bo cap cap2 _ _ _ g1 g2 hF hG (fit_len hq) t1 t2)
  clear g1 g2 t1 t2
  go_enter Tryz.func69, Tryz.ntmps69
  go_wp2_with (go_at_call 98; refine ct.mono ?_; rintro e w1 ⟨v, rfl, hv⟩)
  exact bodyPost_ret (v := .tuple #[v, .int .i64 (fitN xs.length ys.length)]) (by simp [results, Tryz.results69, go_sem]) rfl ⟨v, rfl, hv.up t3⟩
set_option maxHeartbeats 400000 in
theorem vscale_any (t : Nat) (xs : List Nat) (ao : Option Addr) (cap : Nat) (w : World) (ht : t < 18446744073709551616) (hr : GRow w ao xs) (hF : FW xs) (hn : xs.length ≤ 17592186044416) :
    Calls Tryz.prog 49 #[.float .f64 t, .slice ao xs.length cap] w fun e w' => ∃ v, e = .returned v ∧ GaveF w (tab xs.length (scO t xs)) v w' := by
  obtain ⟨t1, t2, t3⟩ := al_two (w := w) (.float .f64 t) (.slice ao xs.length cap) 48 22
  have g1 := hr.below t3
  have ct := filled_scale (scO t xs) xs.length _ _ _ hn (scale1_all t xs ao cap _ _ _ ht g1 hF t1 t2)
  clear g1 t1 t2
  go_enter Tryz.func49, Tryz.ntmps49
  go_wp2_with (go_at_call 83; refine ct.mono ?_; rintro e w1 ⟨v, rfl, hv⟩)
  go_ret
  exact ⟨v, rfl, hv.up t3⟩
end Go.Proofs.YtmbcmhncicbbjaaGreatDoor

namespace Go.Proofs.YtmbcmhncicbbjaaGreatDoor
open Go.RowKit

/-- append to a row of the call's own, as one step of a region that draws its order. -/
theorem step_own {P : Program} {ops : Array Oper} {o : Oper} {a : Act} {w : World} {K : Act → World → Prop} {Q : Exit → Act → World → Prop} {E : Prop}
    (hg : o.guard = none) (s x : Operand) (t : TypeId) (ho : o.op = .call { callee := .builtin .append, args := #[s, x], argTypes := #[t, t] })
    (base : Nat) (e : TypeId) (i : TypeInfo) (z : Value) (size bytes : Nat) (ht : P.underlying t = some (.slice e)) (hi : P.info? e = some i) (hz : i.zero = some z)
    (hsize : i.size = size) (hby : i.bytes = bytes) (hzs : z.cells.size = size) (hsz : 0 < size)
    (v : Value) (n : Nat) (xs : List Value) (hs : a.eval s = v) (hown : w.ownsRow base e size v n xs)
    (ad : Addr) (m c : Nat) (news : List Value) (hx : a.eval x = .slice (some ad) m c) (hl : news.length = m * size) (hnews : ∀ j u, news[j]? = some u → w.cell? (ad.add j) = some u) (h1 : ∀ u ∈ news, u.oneCell' = true)
    (h63 : n + m ≤ maxLen) (hbytes : (n + m) * bytes ≤ 140737488355328) (hbase : base ≤ w.heap.size)
    (h : ∀ v' w', w'.ownsRow base e size v' (n + m) (xs ++ news) → w.grownBy w' v.ownBlock → (v' = .slice none 0 0 ↔ v = .slice none 0 0 ∧ m = 0) → K (a.put o.dst v') w') :
    if Region.wanted o (yielded ops a.tmps) = true then Oper.wp P o a w K Q else E := by
  have hw : Region.wanted o (yielded ops a.tmps) = true := by simp [Region.wanted, hg]
  rw [if_pos hw]
  exact wp_append_own w s x t ho base e i z size bytes ht hi hz hsize hby hzs hsz v n xs hs hown ad m c news hx hl hnews h1 h63 hbytes hbase h
theorem fv_snoc (rs : List Nat) (r : Nat) : fv (rs ++ [r]) = fv rs ++ [.float .f64 r] := by rw [fv_app]; rfl
theorem NR_snoc {o : Nat → Option Nat} {rs : List Nat} {k r : Nat} (hl : rs.length = k) (h : ∀ j, j < k → NR (o j) (rs.getD j 0)) (hr : NR (o k) r) : (rs ++ [r]).length = k + 1 ∧ ∀ j, j < k + 1 → NR (o j) ((rs ++ [r]).getD j 0) := by
  refine ⟨by simp [hl], fun j hj => ?_⟩
  by_cases e : j = k
  · subst e; subst hl
    rw [List.getD_eq_getElem?_getD, List.getElem?_append_right (Nat.le_refl _), Nat.sub_self]
    exact hr
  · have e2 : (rs ++ [r]).getD j 0 = rs.getD j 0 := by rw [List.getD_eq_getElem?_getD, List.getD_eq_getElem?_getD, List.getElem?_append_left (by omega)]
    rw [e2]
    exact h j (by omega)
theorem opW_size (op : BinOp) (a b : Nat) (w : World) : (opW op a b w).heap.size = w.heap.size := by rw [opW_heap]
end Go.Proofs.YtmbcmhncicbbjaaGreatDoor

namespace Go.Proofs.YtmbcmhncicbbjaaGreatDoor
open Go.RowKit

/-- The products of each two, each added to those before it. -/
def dtO (xs ys : List Nat) : Nat → Option Nat
  | 0 => some 0
  | k + 1 => opO .add (dtO xs ys k) (opO .mul (toO (xs.getD k 0)) (toO (ys.getD k 0)))
def dotF (xs ys : List Nat) : Option Nat := if fitN xs.length ys.length = 0 then dtO xs ys xs.length else some 0
theorem NR_zero : NR (some 0) 0 := ⟨by omega, rfl⟩
/-- 1 or -1. -/
def oneW (s : Bool) : Nat := Ieee.double.word s 4607182418800017408
theorem one_parts (s : Bool) : oneW s < 18446744073709551616 ∧ finB (oneW s) = true ∧ sgn (oneW s) = s ∧ mg (rung (oneW s)) = 4503599627370496 ∧ up (rung (oneW s)) = 1022 := by
  cases s <;> decide
theorem mul_oneW (s : Bool) {x : Nat} (hx : x < 18446744073709551616) (hn : nanB x = false) : floatBits .mul .f64 (oneW s) x = some (Ieee.double.word (s ^^ sgn x) (rung x)) := by
  obtain ⟨o1, o2, o3, o4, o5⟩ := one_parts s
  have hr : rung x ≤ 9218868437227405312 := by unfold nanB at hn; simpa using hn
  rw [(fbits_map _ _).2.2.1, read_fin o1 o2, o3, o4, o5]
  by_cases hi : rung x = 9218868437227405312
  · rw [read_eq x hx, if_neg (by omega), if_pos hi, hi]
    simp only [Ieee.Datum.product]
    rw [Bool.xor_comm]; rfl
  · have fx : finB x = true := by unfold finB; simp; omega
    rw [read_fin hx fx]
    simp only [Ieee.Datum.product, Option.map_some, Ieee.Format.write, Option.some.injEq]
    by_cases h0 : rung x = 0
    · have m0 : mg (rung x) = 0 := by rw [h0]; decide
      rw [m0, h0, Nat.mul_zero]
      show Ieee.double.nearest _ 0 _ = _
      rfl
    · have hv := nearest_val (s ^^ sgn x) (4503599627370496 * mg (rung x)) (-1074 + (1022 : Nat) + (-1074 + (up (rung x) : Nat))) (mg (rung x)) (up (rung x)) (mg_lt _) (mg_ne h0) (mg_up_ok _) (Or.inr ⟨52, by omega, by rw [Nat.mul_comm]⟩)
      rw [hv]
      have e := rung_mg (rung x)
      rw [show min (up (rung x) * 4503599627370496 + mg (rung x)) 9218868437227405312 = rung x by omega]
theorem opO_one {x : Nat} (hx : x < 18446744073709551616) : opO .mul (toO 4607182418800017408) (toO x) = toO x := by
  have e1 : toO 4607182418800017408 = some (oneW false) := by decide
  rw [e1]
  cases hn : nanB x
  · have e2 : toO x = some x := by unfold toO; rw [hn]; rfl
    rw [e2]
    show floatBits .mul .f64 (oneW false) x = some x
    rw [mul_oneW false hx hn, Bool.false_xor, ← word_of hx]
  · have e2 : toO x = none := by unfold toO; rw [hn]; rfl
    rw [e2]; rfl
theorem ax_one {xs ys : List Nat} (hF : FW xs) {k : Nat} (hk : k < xs.length) : axO 4607182418800017408 xs ys k = adO xs ys k := by
  unfold axO adO
  rw [opO_one (hF.at hk)]
theorem tab_congr {n : Nat} {o p : Nat → Option Nat} (h : ∀ k, k < n → o k = p k) : tab n o = tab n p := by
  unfold tab
  apply List.map_congr_left
  intro a ha
  exact h a (List.mem_range.1 ha)
theorem ax_one_tab {xs ys : List Nat} (hF : FW xs) : tab xs.length (axO 4607182418800017408 xs ys) = tab xs.length (adO xs ys) := tab_congr fun _ hk => ax_one hF hk
end Go.Proofs.YtmbcmhncicbbjaaGreatDoor

namespace Go.Proofs.YtmbcmhncicbbjaaGreatDoor
open Go.RowKit

/-- A list that was written out, in new memory. -/
theorem lit_row (w : World) (cs : Array Value) (xs : List Nat) (t : TypeId) (h : cs.toList = fv xs) : GRow (w.alloc (.cells cs t)) (some ⟨w.heap.size, 0, none⟩) xs := by
  refine Or.inr ⟨w.heap.size, 0, rfl, fun j hj => ?_⟩
  have hc := cell_of_row (w.alloc (.cells cs t)) w.heap.size j cs t (0, 0) (heap_alloc_new _ _)
  rw [Nat.zero_add, hc]
  have : cs.toList[j]? = some (.float .f64 (xs.getD j 0)) := by rw [h]; exact fv_at hj
  simpa using this
theorem below_al (w : World) (o : Obj) : Below w.heap.size w (w.alloc o) := (Below.refl _ _).alloc (Nat.le_refl _) _
theorem LN_two {a b : Nat} {rs : List Nat} (h : LN [some a, some b] rs) : rs = [a, b] := by
  obtain ⟨h1, h2⟩ := h
  match rs, h1 with
  | [x, y], _ =>
    have e1 : x = a := (h2 0 (by simp)).2
    have e2 : y = b := (h2 1 (by simp)).2
    rw [e1, e2]
theorem aw_axpy : tab 2 (axO 4611686018427387904 [4607182418800017408, 4611686018427387904] [4613937818241073152, 4616189618054758400]) = [some 4617315517961601024, some 4620693217682128896] := by kernel_rfl
theorem aw_dot : dotF [4607182418800017408, 4611686018427387904] [4613937818241073152, 4616189618054758400] = some 4622382067542392832 := by kernel_rfl
theorem aw_most : msL [4613937818241073152, 13839561654909534208, 4616189618054758400] 3 = (1, 4616189618054758400) := by kernel_rfl
theorem aw_norm : nrO [4613937818241073152, 13839561654909534208] 2 = some 4619567317775286272 := by kernel_rfl
theorem fw2 {a b : Nat} (ha : a < 18446744073709551616) (hb : b < 18446744073709551616) : FW [a, b] := fun x hx => by
  simp at hx; rcases hx with rfl | rfl <;> assumption
theorem aw_sr (ao bo : Option Addr) (cap : Nat) (w : World) (g1 : GRow w ao [4617315517961601024, 4620693217682128896]) (g2 : GRow w bo [4617315517961601024, 4620693217682128896]) :
    Calls Tryz.prog 12 #[.slice ao 2 cap, .slice bo 2 2] w fun e w' => e = .returned (.bool true) ∧ Below w.heap.size w w' := by
  have h := sreals_any [4617315517961601024, 4620693217682128896] [4617315517961601024, 4620693217682128896] ao bo cap 2 w g1 g2 (fw2 (by omega) (by omega)) (fw2 (by omega) (by omega)) (by simp) (by simp)
  exact h
theorem aw_nm (ao : Option Addr) (w : World) (g1 : GRow w ao [4613937818241073152, 13839561654909534208]) :
    Calls Tryz.prog 44 #[.slice ao 2 2] w fun e w' => e = .returned (.float .f64 4619567317775286272) ∧ Below w.heap.size w w' := by
  have h := vnorm_any [4613937818241073152, 13839561654909534208] ao 2 w g1 (fw2 (by omega) (by omega)) (by simp)
  refine Calls.mono h ?_
  rintro e w' ⟨r, rfl, h2, h3⟩
  have e1 : nrO [4613937818241073152, 13839561654909534208] [4613937818241073152, 13839561654909534208].length = some 4619567317775286272 := aw_norm
  rw [e1] at h2
  have e2 : r = 4619567317775286272 := h2.2
  subst e2
  exact ⟨rfl, h3⟩
set_option maxHeartbeats 400000 in
theorem aw_cs (w : World) : Calls Tryz.prog 127 #[.float .f64 0, .float .f64 13830554455654793216] w fun e w' => e = .returned (.float .f64 9223372036854775808) ∧ w' = w := by
  have f0 := run_fbits 0
  have f1 := run_fbits 13830554455654793216
  have ff := run_ffrom
  go_enter Tryz.func127, Tryz.ntmps127
  go_wp2
  go_ret
  exact ⟨rfl, rfl⟩
theorem row_at {w : World} {cs : Array Value} {xs : List Nat} {t : TypeId} {n : Nat} (hn : w.heap.size = n) (h : cs.toList = fv xs) : GRow (w.alloc (.cells cs t)) (some ⟨n, 0, none⟩) xs := by
  subst hn; exact lit_row w cs xs t h
theorem row_on {w : World} {ao : Option Addr} {xs : List Nat} (h : GRow w ao xs) (o : Obj) : GRow (w.alloc o) ao xs := h.below (below_al w o)
end Go.Proofs.YtmbcmhncicbbjaaGreatDoor
