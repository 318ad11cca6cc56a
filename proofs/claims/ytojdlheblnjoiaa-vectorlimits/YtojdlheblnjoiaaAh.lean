/- What the document's Axpy, Add, Sub and Scale answer: lists that grow by appending. -/
import Derived.Test.YtojdlheblnjoiaaAg
import Derived.Deep.RegionLaw
namespace Go.Proofs.Ytojdlheblnjoiaa
open Go.RowKit

/-- append to a row of the call's own, as one step of a region that draws its order. -/
theorem step_own {P : Program} {ops : Array Oper} {o : Oper} {a : Act} {w : World} {K : Act → World → Prop} {Q : Exit → Act → World → Prop} {E : Prop}
    (hg : o.guard = none) (s x : Operand) (t : TypeId) (ho : o.op = .call { callee := .builtin .append, args := #[s, x], argTypes := #[t, t] })
    (base : Nat) (e : TypeId) (i : TypeInfo) (z : Value) (size bytes : Nat) (ht : P.underlying t = some (.slice e)) (hi : P.info? e = some i) (hz : i.zero = some z)
    (hsize : i.size = size) (hby : i.bytes = bytes) (hzs : z.cells.size = size) (hsz : 0 < size)
    (v : Value) (n : Nat) (xs : List Value) (hs : a.eval s = v) (hown : w.ownsRow base e size v n xs)
    (ad : Addr) (m c : Nat) (news : List Value) (hx : a.eval x = .slice (some ad) m c) (hl : news.length = m * size) (hnews : ∀ j u, news[j]? = some u → w.cell? (ad.add j) = some u) (h1 : ∀ u ∈ news, u.oneCell' = true)
    (h63 : n + m ≤ maxLen) (hbytes : (n + m) * bytes ≤ 140737488355328) (hbase : base ≤ w.heap.size)
    (h : ∀ v' w', w'.ownsRow base e size v' (n + m) (xs ++ news) → w.grownBy w' v.ownBlock → (v' = .slice none 0 0 ↔ v = .slice none 0 0 ∧ m = 0) → K (a.put o.dst v') w') :
    if Region.wanted o (yielded ops a.tmps) = true then Oper.wp P o a w K Q else E := by
  have hw : Region.wanted o (yielded ops a.tmps) = true := by simp [Region.wanted, hg]
  rw [if_pos hw]
  exact wp_append_own w s x t ho base e i z size bytes ht hi hz hsize hby hzs hsz v n xs hs hown ad m c news hx hl hnews h1 h63 hbytes hbase h
theorem fv_snoc (rs : List Nat) (r : Nat) : fv (rs ++ [r]) = fv rs ++ [.float .f64 r] := by rw [fv_app]; rfl
theorem NR_snoc {o : Nat → Option Nat} {rs : List Nat} {k r : Nat} (hl : rs.length = k) (h : ∀ j, j < k → NR (o j) (rs.getD j 0)) (hr : NR (o k) r) : (rs ++ [r]).length = k + 1 ∧ ∀ j, j < k + 1 → NR (o j) ((rs ++ [r]).getD j 0) := by
  refine ⟨by simp [hl], fun j hj => ?_⟩
  by_cases e : j = k
  · subst e; subst hl
    rw [List.getD_eq_getElem?_getD, List.getElem?_append_right (Nat.le_refl _), Nat.sub_self]
    exact hr
  · have e2 : (rs ++ [r]).getD j 0 = rs.getD j 0 := by rw [List.getD_eq_getElem?_getD, List.getD_eq_getElem?_getD, List.getElem?_append_left (by omega)]
    rw [e2]
    exact h j (by omega)
theorem opW_size (op : BinOp) (a b : Nat) (w : World) : (opW op a b w).heap.size = w.heap.size := by rw [opW_heap]
set_option maxHeartbeats 2000000 in
theorem raxpy_any (t : Nat) (xs ys : List Nat) (ao bo : Option Addr) (cap cap2 : Nat) (w : World) (ht : t < 18446744073709551616) (hr : GRow w ao xs) (hs : GRow w bo ys) (hF : FW xs) (hG : FW ys) (hn : xs.length ≤ 17592186044416) (hm : ys.length ≤ 17592186044416) :
    Calls Try.prog 13 #[.float .f64 t, .slice ao xs.length cap, .slice bo ys.length cap2] w fun e w' => ∃ v, e = .returned (.tuple #[v, .int .i64 (fitN xs.length ys.length)]) ∧ GaveF w (ifFit xs.length ys.length (tab xs.length (axO t xs ys))) v w' := by
  have cf := fun w => rfit_any xs.length ys.length cap cap2 ao bo (by omega) (by omega) w
  unfold ifFit
  by_cases hq : fitN xs.length ys.length = 0
  case neg =>
    rw [if_neg hq]
    have hG := GaveF.nil (Below.refl w.heap.size w)
    generalize fitN xs.length ys.length = q at *
    go_enter Try.func13, Try.ntmps13
    go_wp2_with (go_at_call 36; refine (cf _).mono ?_; rintro e w' ⟨rfl, h'⟩; subst w')
    exact bodyPost_ret (v := .tuple #[.slice none 0 0, .int .i64 q]) (by simp [results, Try.results13, go_sem]) rfl ⟨_, rfl, hG⟩
  rw [if_pos hq]
  have HL : Hid (ys.length = xs.length) := fit_len hq
  rw [hq] at cf ⊢
  clear hq
  obtain ⟨i0, hi, hz0, hz1, hz2⟩ := info_parts Try.infoF
  have h1 := fun x y w => run_op4 (P := Try.prog) (op := .add) (Or.inl rfl) 22 x y w
  have h2 := fun x y w => run_op4 (P := Try.prog) (op := .mul) opMu 22 x y w
  have h3 := fun x y w => run_op4 (P := Try.prog) (op := .sub) opS 22 x y w
  have hcv := conv64
  go_enter Try.func13, Try.ntmps13
  go_wp2_with (go_at_call 36; refine (cf _).mono ?_; rintro e w' ⟨rfl, h'⟩; subst w')
  go_loopg [9, 10, 11] xs.length (fun g v i _ wr => ∃ (k : Nat) (rs : List Nat), k ≤ xs.length ∧ g = xs.length - k ∧ i = .int .i64 k ∧ Hid (rs.length = k) ∧ Hid (∀ j, j < k → NR ((axO t xs ys) j) (rs.getD j 0)) ∧ wr.ownsRow w.heap.size 22 1 v k (fv rs) ∧ Below w.heap.size w wr)
  case atStart => exact ⟨0, [], Nat.zero_le _, rfl, rfl, rfl, fun j hj => by omega, World.ownsRow_nil _ _ _ _, Below.refl _ _⟩
  case round =>
    obtain ⟨k, rs, hk, hg, rfl, hrl, hN, hown, hb⟩ := hrel
    have HG : Hid (gk = xs.length - k) := hg
    clear hg
    have hbs := hb.size
    by_cases hlt : k < xs.length
    · rcases hr.below hb with h | ⟨b, off, rfl, hc⟩
      · omega
      rcases hs.below hb with h | ⟨b2, off2, rfl, hd⟩
      · have := HL.out; omega
      have hlt2 : k < ys.length := by have := HL.out; omega
      have g2 := hd k hlt2
      have i2 : (k : Int) < (ys.length : Int) := by omega
      have hy := hG.at hlt2
      have g1 := hc k hlt
      have hx := hF.at hlt
      have HO : Hid ((axO t xs ys) k = opO .add (opO .mul (toO t) (toO (xs.getD k 0))) (toO (ys.getD k 0))) := rfl
      obtain ⟨x, ex⟩ : ∃ x, xs.getD k 0 = x := ⟨_, rfl⟩
      rw [ex] at g1 hx HO
      obtain ⟨y, ey⟩ : ∃ y, ys.getD k 0 = y := ⟨_, rfl⟩
      rw [ey] at g2 hy HO
      clear ey hd hlt2
      clear ex hc
      have gy : ∀ op p q, (opW op p q wr).cell? ⟨b2, off2 + k, none⟩ = some (.float .f64 y) := fun op p q => by unfold World.cell?; rw [opW_heap]; exact g2
      have i1 : (k : Int) < (xs.length : Int) := by omega
      have HS : Hid (NR ((axO t xs ys) k) (opR .add (opR .mul t x wr) y (opW .mul t x wr))) := (show NR _ _ by rw [HO.out]; exact opO_NR (Or.inl rfl) (opO_NR opMu (toO_NR ht) (toO_NR hx) wr) (toO_NR hy) _)
      obtain ⟨r, er⟩ : ∃ r, opR .add (opR .mul t x wr) y (opW .mul t x wr) = r := ⟨_, rfl⟩
      rw [er] at HS
      have hO : ∀ o, (World.alloc (opW .add (opR .mul t x wr) y (opW .mul t x wr)) o).ownsRow w.heap.size 22 1 u9 k (fv rs) := fun o => World.ownsRow.alloc (own_opW (own_opW hown .mul t x) .add _ y) o
      have HZ : ∀ o, w.heap.size ≤ (World.alloc (opW .add (opR .mul t x wr) y (opW .mul t x wr)) o).heap.size := fun o => by simp [opW_size]; omega
      have hfin : ∀ (v' : Value) (w1 : World), w1.ownsRow w.heap.size 22 1 v' (k + 1) (fv rs ++ [.float .f64 r]) → w1.ownsRow w.heap.size 22 1 v' (k + 1) (fv (rs ++ [r])) := fun v' w1 h => by rw [fv_snoc]; exact h
      have hbel : ∀ (o : Obj) (w1 : World), (World.alloc (opW .add (opR .mul t x wr) y (opW .mul t x wr)) o).grownBy w1 u9.ownBlock → Below w.heap.size w w1 := fun o w1 hg => (Below.alloc (opW_below .add _ y (opW_below .mul t x hb)) (by simp only [opW_size]; exact hbs) _).grown hg (HZ _) (fun k hk => (hown.lt k hk).1)
      have HR : Hid ((rs ++ [r]).length = k + 1 ∧ ∀ j, j < k + 1 → NR ((axO t xs ys) j) ((rs ++ [r]).getD j 0)) := NR_snoc hrl.out hN.out HS.out
      clear hN HS
      go_wp2_with (at_builtin; refine wpList_append_own _ rfl _ _ 23 rfl w.heap.size 22 i0 (.float .f64 0) 1 8 Try.underlying23 hi hz0 hz1 hz2 rfl (by decide) _ _ _ rfl (hO _) _ 1 1 [.float .f64 r] rfl rfl (World.news_of_block (cs := #[.float .f64 r]) (t := 22) (fr := (0, 0)) (heap_alloc_new _ _)) (by simp [Value.oneCell']) (by unfold maxLen; omega) (by omega) (HZ _) ?_; intro v' w1 hown1 hgrow _)
      have hown2 := hfin _ _ hown1
      have hb2 := hbel _ _ hgrow
      clear hown1 hgrow hown hb hfin hbel g1
      go_wp2
      go_roundg (xs.length - (k + 1))
      case measure => rw [HG.out]; omega
      case rel => exact ⟨k + 1, rs ++ [r], by omega, rfl, by go_num, HR.out.1, HR.out.2, hown2, hb2⟩
    · have ek : k = xs.length := by omega
      subst ek
      have i1 : ¬ (xs.length : Int) < (xs.length : Int) := by omega
      have hown' : wr.ownsRow w.heap.size 22 1 u9 rs.length (fv rs) := by rw [hrl.out]; exact hown
      have hG := GaveF.own hown' hrl.out hN.out hb
      clear hown' hown hN
      go_wp2
      exact bodyPost_ret (v := .tuple #[u9, .int .i64 0]) (by simp [results, Try.results13, go_sem]) rfl ⟨_, rfl, hG⟩
theorem radd_all (xs ys : List Nat) (ao bo : Option Addr) (cap cap2 : Nat) (w : World) (hr : GRow w ao xs) (hs : GRow w bo ys) (hF : FW xs) (hG : FW ys) (hn : xs.length ≤ 17592186044416) (hm : ys.length ≤ 17592186044416) :
    Calls Try.prog 8 #[.slice ao xs.length cap, .slice bo ys.length cap2] w fun e w' => ∃ v, e = .returned (.tuple #[v, .int .i64 (fitN xs.length ys.length)]) ∧ GaveF w (ifFit xs.length ys.length (tab xs.length (axO 4607182418800017408 xs ys))) v w' := by
  have ca := raxpy_any 4607182418800017408 xs ys ao bo cap cap2 w (by omega) hr hs hF hG hn hm
  go_enter Try.func8, Try.ntmps8
  go_wp2_with (go_at_call 13; refine ca.mono ?_; rintro e w1 ⟨v, rfl, hv⟩)
  exact bodyPost_ret (v := .tuple #[v, .int .i64 (fitN xs.length ys.length)]) (by simp [results, Try.results8, go_sem]) rfl ⟨v, rfl, hv⟩
set_option maxHeartbeats 2000000 in
theorem rscale_any (t : Nat) (xs : List Nat) (ao : Option Addr) (cap : Nat) (w : World) (ht : t < 18446744073709551616) (hr : GRow w ao xs) (hF : FW xs) (hn : xs.length ≤ 17592186044416) :
    Calls Try.prog 18 #[.float .f64 t, .slice ao xs.length cap] w fun e w' => ∃ v, e = .returned v ∧ GaveF w (tab xs.length (scO t xs)) v w' := by
  obtain ⟨i0, hi, hz0, hz1, hz2⟩ := info_parts Try.infoF
  have h1 := fun x y w => run_op4 (P := Try.prog) (op := .add) (Or.inl rfl) 22 x y w
  have h2 := fun x y w => run_op4 (P := Try.prog) (op := .mul) opMu 22 x y w
  have h3 := fun x y w => run_op4 (P := Try.prog) (op := .sub) opS 22 x y w
  have hcv := conv64
  go_enter Try.func18, Try.ntmps18
  go_wp2
  go_loopg [5, 6] xs.length (fun g v i wr => ∃ (k : Nat) (rs : List Nat), k ≤ xs.length ∧ g = xs.length - k ∧ i = .int .i64 k ∧ Hid (rs.length = k) ∧ Hid (∀ j, j < k → NR ((scO t xs) j) (rs.getD j 0)) ∧ wr.ownsRow w.heap.size 22 1 v k (fv rs) ∧ Below w.heap.size w wr)
  case atStart => exact ⟨0, [], Nat.zero_le _, rfl, rfl, rfl, fun j hj => by omega, World.ownsRow_nil _ _ _ _, Below.refl _ _⟩
  case round =>
    obtain ⟨k, rs, hk, hg, rfl, hrl, hN, hown, hb⟩ := hrel
    have HG : Hid (gk = xs.length - k) := hg
    clear hg
    have hbs := hb.size
    by_cases hlt : k < xs.length
    · rcases hr.below hb with h | ⟨b, off, rfl, hc⟩
      · omega
      have g1 := hc k hlt
      have hx := hF.at hlt
      have HO : Hid ((scO t xs) k = opO .mul (toO t) (toO (xs.getD k 0))) := rfl
      obtain ⟨x, ex⟩ : ∃ x, xs.getD k 0 = x := ⟨_, rfl⟩
      rw [ex] at g1 hx HO
      clear ex hc
      have i1 : (k : Int) < (xs.length : Int) := by omega
      have HS : Hid (NR ((scO t xs) k) (opR .mul t x wr)) := (show NR _ _ by rw [HO.out]; exact opO_NR opMu (toO_NR ht) (toO_NR hx) wr)
      obtain ⟨r, er⟩ : ∃ r, opR .mul t x wr = r := ⟨_, rfl⟩
      rw [er] at HS
      have hO : ∀ o, (World.alloc (opW .mul t x wr) o).ownsRow w.heap.size 22 1 u5 k (fv rs) := fun o => World.ownsRow.alloc (own_opW hown .mul t x) o
      have HZ : ∀ o, w.heap.size ≤ (World.alloc (opW .mul t x wr) o).heap.size := fun o => by simp [opW_size]; omega
      have hfin : ∀ (v' : Value) (w1 : World), w1.ownsRow w.heap.size 22 1 v' (k + 1) (fv rs ++ [.float .f64 r]) → w1.ownsRow w.heap.size 22 1 v' (k + 1) (fv (rs ++ [r])) := fun v' w1 h => by rw [fv_snoc]; exact h
      have hbel : ∀ (o : Obj) (w1 : World), (World.alloc (opW .mul t x wr) o).grownBy w1 u5.ownBlock → Below w.heap.size w w1 := fun o w1 hg => (Below.alloc (opW_below .mul t x hb) (by simp only [opW_size]; exact hbs) _).grown hg (HZ _) (fun k hk => (hown.lt k hk).1)
      have HR : Hid ((rs ++ [r]).length = k + 1 ∧ ∀ j, j < k + 1 → NR ((scO t xs) j) ((rs ++ [r]).getD j 0)) := NR_snoc hrl.out hN.out HS.out
      clear hN HS
      go_wp2_with (at_builtin; refine wpList_append_own _ rfl _ _ 23 rfl w.heap.size 22 i0 (.float .f64 0) 1 8 Try.underlying23 hi hz0 hz1 hz2 rfl (by decide) _ _ _ rfl (hO _) _ 1 1 [.float .f64 r] rfl rfl (World.news_of_block (cs := #[.float .f64 r]) (t := 22) (fr := (0, 0)) (heap_alloc_new _ _)) (by simp [Value.oneCell']) (by unfold maxLen; omega) (by omega) (HZ _) ?_; intro v' w1 hown1 hgrow _)
      have hown2 := hfin _ _ hown1
      have hb2 := hbel _ _ hgrow
      clear hown1 hgrow hown hb hfin hbel g1
      go_wp2
      go_roundg (xs.length - (k + 1))
      case measure => rw [HG.out]; omega
      case rel => exact ⟨k + 1, rs ++ [r], by omega, rfl, by go_num, HR.out.1, HR.out.2, hown2, hb2⟩
    · have ek : k = xs.length := by omega
      subst ek
      have i1 : ¬ (xs.length : Int) < (xs.length : Int) := by omega
      have hown' : wr.ownsRow w.heap.size 22 1 u5 rs.length (fv rs) := by rw [hrl.out]; exact hown
      have hG := GaveF.own hown' hrl.out hN.out hb
      clear hown' hown hN
      go_wp2
      go_ret
      exact ⟨_, rfl, hG⟩
set_option maxHeartbeats 2000000 in
theorem rsub_any (xs ys : List Nat) (ao bo : Option Addr) (cap cap2 : Nat) (w : World) (hr : GRow w ao xs) (hs : GRow w bo ys) (hF : FW xs) (hG : FW ys) (hn : xs.length ≤ 17592186044416) (hm : ys.length ≤ 17592186044416) :
    Calls Try.prog 10 #[.slice ao xs.length cap, .slice bo ys.length cap2] w fun e w' => ∃ v, e = .returned (.tuple #[v, .int .i64 (fitN xs.length ys.length)]) ∧ GaveF w (ifFit xs.length ys.length (tab xs.length (sbO xs ys))) v w' := by
  have cf := fun w => rfit_any xs.length ys.length cap cap2 ao bo (by omega) (by omega) w
  unfold ifFit
  by_cases hq : fitN xs.length ys.length = 0
  case neg =>
    rw [if_neg hq]
    have hG := GaveF.nil (Below.refl w.heap.size w)
    generalize fitN xs.length ys.length = q at *
    go_enter Try.func10, Try.ntmps10
    go_wp2_with (go_at_call 36; refine (cf _).mono ?_; rintro e w' ⟨rfl, h'⟩; subst w')
    exact bodyPost_ret (v := .tuple #[.slice none 0 0, .int .i64 q]) (by simp [results, Try.results10, go_sem]) rfl ⟨_, rfl, hG⟩
  rw [if_pos hq]
  have HL : Hid (ys.length = xs.length) := fit_len hq
  rw [hq] at cf ⊢
  clear hq
  obtain ⟨i0, hi, hz0, hz1, hz2⟩ := info_parts Try.infoF
  have h1 := fun x y w => run_op4 (P := Try.prog) (op := .add) (Or.inl rfl) 22 x y w
  have h2 := fun x y w => run_op4 (P := Try.prog) (op := .mul) opMu 22 x y w
  have h3 := fun x y w => run_op4 (P := Try.prog) (op := .sub) opS 22 x y w
  have hcv := conv64
  go_enter Try.func10, Try.ntmps10
  go_wp2_with (go_at_call 36; refine (cf _).mono ?_; rintro e w' ⟨rfl, h'⟩; subst w')
  go_loopg [7, 8] xs.length (fun g v i wr => ∃ (k : Nat) (rs : List Nat), k ≤ xs.length ∧ g = xs.length - k ∧ i = .int .i64 k ∧ Hid (rs.length = k) ∧ Hid (∀ j, j < k → NR ((sbO xs ys) j) (rs.getD j 0)) ∧ wr.ownsRow w.heap.size 22 1 v k (fv rs) ∧ Below w.heap.size w wr)
  case atStart => exact ⟨0, [], Nat.zero_le _, rfl, rfl, rfl, fun j hj => by omega, World.ownsRow_nil _ _ _ _, Below.refl _ _⟩
  case round =>
    obtain ⟨k, rs, hk, hg, rfl, hrl, hN, hown, hb⟩ := hrel
    have HG : Hid (gk = xs.length - k) := hg
    clear hg
    have hbs := hb.size
    by_cases hlt : k < xs.length
    · rcases hr.below hb with h | ⟨b, off, rfl, hc⟩
      · omega
      rcases hs.below hb with h | ⟨b2, off2, rfl, hd⟩
      · have := HL.out; omega
      have hlt2 : k < ys.length := by have := HL.out; omega
      have g2 := hd k hlt2
      have i2 : (k : Int) < (ys.length : Int) := by omega
      have hy := hG.at hlt2
      have g1 := hc k hlt
      have hx := hF.at hlt
      have HO : Hid ((sbO xs ys) k = opO .sub (toO (xs.getD k 0)) (toO (ys.getD k 0))) := rfl
      obtain ⟨x, ex⟩ : ∃ x, xs.getD k 0 = x := ⟨_, rfl⟩
      rw [ex] at g1 hx HO
      obtain ⟨y, ey⟩ : ∃ y, ys.getD k 0 = y := ⟨_, rfl⟩
      rw [ey] at g2 hy HO
      clear ey hd hlt2
      clear ex hc
      have i1 : (k : Int) < (xs.length : Int) := by omega
      have HS : Hid (NR ((sbO xs ys) k) (opR .sub x y wr.drew)) := (show NR _ _ by rw [HO.out]; exact opO_NR opS (toO_NR hx) (toO_NR hy) _)
      obtain ⟨r, er⟩ : ∃ r, opR .sub x y wr.drew = r := ⟨_, rfl⟩
      rw [er] at HS
      have hO : ∀ o, (World.alloc (opW .sub x y wr.drew) o).ownsRow w.heap.size 22 1 u7 k (fv rs) := fun o => World.ownsRow.alloc (own_opW hown.drew .sub x y) o
      have HZ : ∀ o, w.heap.size ≤ (World.alloc (opW .sub x y wr.drew) o).heap.size := fun o => by simp [opW_size]; omega
      have hfin : ∀ (v' : Value) (w1 : World), w1.ownsRow w.heap.size 22 1 v' (k + 1) (fv rs ++ [.float .f64 r]) → w1.ownsRow w.heap.size 22 1 v' (k + 1) (fv (rs ++ [r])) := fun v' w1 h => by rw [fv_snoc]; exact h
      have hbel : ∀ (o : Obj) (w1 : World), (World.alloc (opW .sub x y wr.drew) o).grownBy w1 u7.ownBlock → Below w.heap.size w w1 := fun o w1 hg => (Below.alloc (opW_below .sub x y hb.drew) (by simp only [opW_size]; exact hbs) _).grown hg (HZ _) (fun k hk => (hown.lt k hk).1)
      have HR : Hid ((rs ++ [r]).length = k + 1 ∧ ∀ j, j < k + 1 → NR ((sbO xs ys) j) ((rs ++ [r]).getD j 0)) := NR_snoc hrl.out hN.out HS.out
      clear hN HS
      go_wp2
      go_region_law (refine step_own rfl (.tmp 21) (.tmp 31) 23 rfl w.heap.size 22 i0 (.float .f64 0) 1 8 Try.underlying23 hi hz0 hz1 hz2 rfl (by decide) _ _ _ rfl (hO _) _ 1 1 [.float .f64 r] rfl rfl (World.news_of_block (cs := #[.float .f64 r]) (t := 22) (fr := (0, 0)) (heap_alloc_new _ _)) (by simp [Value.oneCell']) (by unfold maxLen; omega) (by omega) (HZ _) ?_; intro v' w1 hown1 hgrow _)
      all_goals
        have hown2 := hfin _ _ hown1
        have hb2 := hbel _ _ hgrow
        clear hown1 hgrow hown hb hfin hbel g1
        go_wp2
        go_roundg (xs.length - (k + 1))
        case measure => rw [HG.out]; omega
        case rel => exact ⟨k + 1, rs ++ [r], by omega, rfl, by go_num, HR.out.1, HR.out.2, hown2, hb2⟩
    · have ek : k = xs.length := by omega
      subst ek
      have i1 : ¬ (xs.length : Int) < (xs.length : Int) := by omega
      have hown' : wr.ownsRow w.heap.size 22 1 u7 rs.length (fv rs) := by rw [hrl.out]; exact hown
      have hG := GaveF.own hown' hrl.out hN.out hb
      clear hown' hown hN
      go_wp2
      exact bodyPost_ret (v := .tuple #[u7, .int .i64 0]) (by simp [results, Try.results10, go_sem]) rfl ⟨_, rfl, hG⟩
end Go.Proofs.Ytojdlheblnjoiaa
