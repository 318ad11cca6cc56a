/- What leftAt answers: a row with its signs turned, and 1; a list, and b. -/
import Derived.Test.YtmbcmhncicbbjaaGreatDoorRf1
import Derived.Test.YtmbcmhncicbbjaaGreatDoorDe2
import Derived.Test.YtmbcmhncicbbjaaGreatDoorA1
namespace Go.Proofs.YtmbcmhncicbbjaaGreatDoor
open Go.RowKit

/-- A list handed back, as a row of one's own. -/
def OwnR (w : World) (n : Nat) (o : Nat → Option Nat) (v : Value) (w' : World) : Prop := ∃ rs, rs.length = n ∧ (∀ i, i < n → NR (o i) (rs.getD i 0)) ∧ w'.ownsRow w.heap.size 48 1 v rs.length (fv rs) ∧ Below w.heap.size w w'
theorem fv_take {c : Array Value} {n : Nat} {f : Nat → Nat} (hc : ∀ i, i < n → c[i]? = some (.float .f64 (f i))) : c.toList.take (n * 1) = fv (toL' n f) := by
  rw [Nat.mul_one]
  refine List.ext_getElem? (fun i => ?_)
  by_cases hi : i < n
  · have h1 : (fv (toL' n f))[i]? = some (.float .f64 (f i)) := by rw [fv_at (by rw [toL'_len]; exact hi), toL'_at hi]
    rw [h1, List.getElem?_take, if_pos hi, ← hc i hi]
    simp
  · have h1 : (fv (toL' n f))[i]? = none := List.getElem?_eq_none (by rw [fv_length, toL'_len]; omega)
    rw [h1, List.getElem?_take, if_neg hi]
theorem OwnR.row {w w' : World} {n : Nat} {f : Nat → Nat} {o : Nat → Option Nat} (h : RRow w' w.heap.size n f) (hN : ∀ i, i < n → NR (o i) (f i)) (hB : Below w.heap.size w w') (hn : n ≤ 17592186044416) : OwnR w n o (.slice (some ⟨w.heap.size, 0, none⟩) n n) w' := by
  obtain ⟨c, h1, h2, h3⟩ := h
  refine ⟨toL' n f, toL'_len _ _, fun i hi => by rw [toL'_at hi]; exact hN i hi, ?_, hB⟩
  rw [toL'_len]
  exact ⟨by rw [fv_length, toL'_len, Nat.mul_one], Or.inr ⟨w.heap.size, n, c, rfl, Nat.le_refl _, h1, Nat.le_refl _, by unfold maxLen; omega, by omega, fv_take h3⟩⟩
theorem OwnR.up {w0 w w' : World} {n : Nat} {o : Nat → Option Nat} {v : Value} (h : OwnR w n o v w') (hb : Below w0.heap.size w0 w) : OwnR w0 n o v w' := by
  obtain ⟨rs, h1, h2, ⟨h3, h4⟩, h5⟩ := h
  refine ⟨rs, h1, h2, ⟨h3, ?_⟩, hb.trans (h5.mono hb.size)⟩
  rcases h4 with h4 | ⟨g, cap, cur, k1, k2, k3⟩
  · exact Or.inl h4
  · exact Or.inr ⟨g, cap, cur, k1, Nat.le_trans hb.size k2, k3⟩
set_option maxHeartbeats 1000000 in
theorem filled_scR (o : Nat → Option Nat) (n T A : Nat) (w : World) (hn : n ≤ 17592186044416) (hcl : ∀ (i : Nat) (wr : World), i < n → Below w.heap.size w wr → Calls Tryz.prog 84 #[.int .i64 i, .pointer (some ⟨T, 0, none⟩), .pointer (some ⟨A, 0, none⟩)] wr fun e w' => ∃ r, e = .returned (.float .f64 r) ∧ NR (o i) r ∧ Below wr.heap.size wr w') :
    Calls Tryz.prog 83 #[.int .i64 n, .func (.func 84) #[] #[.pointer (some ⟨T, 0, none⟩), .pointer (some ⟨A, 0, none⟩)]] w fun e w' => ∃ v, e = .returned v ∧ OwnR w n o v w' := by
  have hmk := run_make_row' (P := Tryz.prog) 22 48 (.float .f64 0) 8 Tryz.underlying22 Tryz.infoF rfl .i64 .i64 n (by omega) (by omega)
  have hmade := RRow.made w n
  have hbm : Below w.heap.size w (w.alloc (.cells (madeCells #[.float .f64 0] n) 48)) := (Below.refl _ _).alloc (Nat.le_refl _) _
  have hsz : w.heap.size < (w.alloc (.cells (madeCells #[.float .f64 0] n) 48)).heap.size := by simp
  go_enter Tryz.func83, Tryz.ntmps83
  go_wp2
  clear hmk
  go_loopg [6, 10] n (fun g _ i wr => ∃ (k : Nat) (f : Nat → Nat), k ≤ n ∧ g = n - k ∧ i = .int .i64 k ∧ Hid (∀ j, j < k → NR (o j) (f j)) ∧ Hid (RRow wr w.heap.size n (fun j => if j < k then f j else 0)) ∧ Hid (w.heap.size < wr.heap.size) ∧ Hid (Below w.heap.size w wr))
  case atStart => exact ⟨0, fun _ => 0, Nat.zero_le _, rfl, rfl, fun j hj => by omega, hmade.congr (fun j hj => by simp), hsz, hbm⟩
  case round =>
    obtain ⟨k, f, hk, hg, rfl, hN, hrow, hsz', hB⟩ := hrel
    have HG : Hid (gk = n - k) := hg
    clear hg hmade hbm hsz
    by_cases hlt : k < n
    · have cc := hcl k wr hlt hB.out
      have hst := vstoref Tryz.prog
      have i1 : (k : Int) < (n : Int) := by omega
      go_wp2_with (go_at_call 84; refine cc.mono ?_; rintro e w1 ⟨r, rfl, hr, b1⟩; have row1 := hrow.out.below b1 hsz'.out; have g2 := World.rowIs.cell row1 hlt; have g3 := World.rowIs.frozen row1 k)
      have hs := row1.set k r
      have hB1 : Below w.heap.size w (w1.setCell ⟨w.heap.size, k, none⟩ (.float .f64 r)) := (hB.out.trans (b1.mono hB.out.size)).setCell (Nat.le_refl _) _
      have hz : w.heap.size < (w1.setCell ⟨w.heap.size, k, none⟩ (.float .f64 r)).heap.size := by have := b1.size; have := hsz'.out; simp; omega
      go_roundg (n - (k + 1))
      case measure => rw [HG.out]; omega
      case rel =>
        refine ⟨k + 1, fun j => if j = k then r else f j, by omega, rfl, by go_num, fun j hj => ?_, hs.congr (fun j hj => ?_), hz, hB1⟩
        · by_cases e : j = k
          · subst e; simpa using hr
          · simp only [e, if_false]; exact hN.out j (by omega)
        · by_cases e : j = k
          · subst e; simp
          · simp only [e, if_false]
            by_cases e2 : j < k
            · rw [if_pos e2, if_pos (by omega)]
            · rw [if_neg e2, if_neg (by omega)]
    · have ek : k = n := by omega
      subst ek
      have i1 : ¬ (k : Int) < (k : Int) := by omega
      have hrow2 : RRow wr w.heap.size k f := hrow.out.congr (fun j hj => by rw [if_pos hj])
      have hG := OwnR.row hrow2 hN.out hB.out hn
      clear hrow2 hrow hN
      go_wp2
      go_ret
      exact ⟨_, rfl, hG⟩
set_option maxHeartbeats 400000 in
theorem vscale_own (t : Nat) (xs : List Nat) (ao : Option Addr) (cap : Nat) (w : World) (ht : t < 18446744073709551616) (hr : GRow w ao xs) (hF : FW xs) (hn : xs.length ≤ 17592186044416) :
    Calls Tryz.prog 49 #[.float .f64 t, .slice ao xs.length cap] w fun e w' => ∃ v, e = .returned v ∧ OwnR w xs.length (scO t xs) v w' := by
  obtain ⟨t1, t2, t3⟩ := al_two (w := w) (.float .f64 t) (.slice ao xs.length cap) 48 22
  have g1 := hr.below t3
  have ct := filled_scR (scO t xs) xs.length _ _ _ hn (scale1_all t xs ao cap _ _ _ ht g1 hF t1 t2)
  clear g1 t1 t2
  go_enter Tryz.func49, Tryz.ntmps49
  go_wp2_with (go_at_call 83; refine ct.mono ?_; rintro e w1 ⟨v, rfl, hv⟩)
  go_ret
  exact ⟨v, rfl, hv.up t3⟩
theorem fvo_one (xs : List Nat) : ∀ u ∈ fv xs, u.oneCell' = true := fun u hu => by
  obtain ⟨x, _, rfl⟩ := List.mem_map.1 hu
  rfl
set_option maxHeartbeats 400000 in
theorem fclone_own (xs : List Nat) (ao : Option Addr) (cap : Nat) (w : World) (hr : GRow w ao xs) (hn : xs.length ≤ 17592186044416) :
    Calls Tryz.prog 50 #[.slice ao xs.length cap] w fun e w' => ∃ v, e = .returned v ∧ w'.ownsRow w.heap.size 48 1 v xs.length (fv xs) ∧ Below w.heap.size w w' := by
  obtain ⟨i0, hi, hz0, hz1, hz2⟩ := info_parts Tryz.infoF
  have hq : ∀ (w : World) (a : Option Addr) (n c n' c' : Nat), (binOp .eql 22 (.slice a n c) (.slice none n' c')).run Tryz.prog w = .ok (.bool a.isNone) w := fun w a n c n' c' => Lib.run_eql_slice_nil w _ _ a n c n' c' Tryz.underlying22
  cases ao with
  | none =>
    have hl : xs.length = 0 := by
      rcases hr with h | ⟨b, off, e, _⟩
      · exact h
      · cases e
    have ex : xs = [] := List.length_eq_zero_iff.1 hl
    subst ex
    go_enter Tryz.func50, Tryz.ntmps50
    go_wp2
    go_ret
    exact ⟨_, rfl, World.ownsRow_nil _ _ _ _, Below.refl _ _⟩
  | some ad =>
    have hnews : ∀ o, ∀ j u, (fv xs)[j]? = some u → (w.alloc o).cell? (ad.add j) = some u := by
      intro o j u hu
      have hj : j < xs.length := by
        have := (List.getElem?_eq_some_iff.1 hu).1
        rw [fv_length] at this; exact this
      rw [fv_at hj] at hu
      cases hu
      rcases hr with h | ⟨b, off, e, hc⟩
      · omega
      · cases e
        have g := cell_alloc (hc j hj) o
        simp only [Addr.add]
        split
        · rename_i h; subst h; exact g
        · exact g
    go_enter Tryz.func50, Tryz.ntmps50
    go_wp2_with (at_builtin; refine wpList_append_own _ rfl _ _ 22 rfl w.heap.size 48 i0 (.float .f64 0) 1 8 Tryz.underlying22 hi hz0 hz1 hz2 rfl (by decide) _ 0 [] rfl (World.ownsRow_made w #[] 0 (Nat.le_refl _) (Nat.zero_le _) rfl) ad xs.length cap (fv xs) rfl (by rw [fv_length, Nat.mul_one]) (hnews _) (fvo_one xs) (by unfold maxLen; omega) (by omega) (by simp) ?_; intro v' w1 hown hgrow _)
    rw [Nat.zero_add, List.nil_append] at hown
    have hgrow' : (w.alloc (.cells #[] 48)).grownBy w1 (some w.heap.size) := hgrow
    clear hgrow
    go_wp2
    go_ret
    exact ⟨_, rfl, hown, ((Below.refl _ _).alloc (Nat.le_refl _) _).grown hgrow' (by simp) (fun k hk => by cases hk; omega)⟩
theorem opO_two (op : BinOp) (u v : Nat) : opO op (some u) (some v) = floatBits op .f64 u v := rfl
/-- A finite number times -1. -/
theorem sc_neg {xs : List Nat} (hF : FW xs) (hf : xs.all finB = true) {i : Nat} (hi : i < xs.length) : scO 13830554455654793216 xs i = some (ngW (xs.getD i 0)) := by
  have fx := fin_at hf hi
  have hx := hF.at hi
  have hn : nanB (xs.getD i 0) = false := by
    have := fin_rung fx
    unfold nanB; exact decide_eq_false (by omega)
  unfold scO
  have e1 : toO 13830554455654793216 = some (oneW true) := by kernel_rfl
  have e2 : toO (xs.getD i 0) = some (xs.getD i 0) := by unfold toO; rw [hn]; rfl
  rw [e1, e2]
  generalize xs.getD i 0 = x at *
  rw [opO_two, mul_oneW true hx hn]
  unfold ngW
  rfl
theorem neg_list {xs rs : List Nat} (hF : FW xs) (hf : xs.all finB = true) (hl : rs.length = xs.length) (hN : ∀ i, i < xs.length → NR (scO 13830554455654793216 xs i) (rs.getD i 0)) : rs = xs.map ngW := by
  refine List.ext_getElem (by simpa using hl) (fun i h1 h2 => ?_)
  have h := hN i (by omega)
  rw [sc_neg hF hf (by omega)] at h
  have h3 : rs.getD i 0 = ngW (xs.getD i 0) := h.2
  rw [getD_at h1, getD_at (by omega)] at h3
  rw [h3, List.getElem_map]
theorem ngW_fin {x : Nat} (h : finB x = true) : finB (ngW x) = true ∧ ngW x < 18446744073709551616 := by
  have hr := fin_rung h
  unfold ngW
  have := word_rung (true ^^ sgn x) (show rung x < 9223372036854775808 by omega)
  refine ⟨?_, ?_⟩
  · unfold finB; rw [this.1]; simpa using hr
  · exact word_lt64 _ (by omega)
end Go.Proofs.YtmbcmhncicbbjaaGreatDoor
