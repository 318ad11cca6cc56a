/- What leftAt answers. -/
import Derived.Test.YtmbcmhncicbbjaaGreatDoorRf2
namespace Go.Proofs.YtmbcmhncicbbjaaGreatDoor
open Go.RowKit

theorem dxA_left {row xs : List Nat} {b : Nat} (hr : row.all finB = true) (hx : xs.all finB = true) (hb : finB b = true) (hl : xs.length = row.length) : dxA (row.map ngW ++ [4607182418800017408]) (xs ++ [b]) 0 = (lfW row xs b, 0) := by
  refine dx_yes (by simp [hl]) ?_ (by rw [List.all_append, hx]; simp [hb])
  rw [List.all_append]
  have h1 : (row.map ngW).all finB = true := by
    rw [List.all_eq_true]
    intro x hx
    obtain ⟨y, hy, rfl⟩ := List.mem_map.1 hx
    exact (ngW_fin (List.all_eq_true.1 hr y hy)).1
  rw [h1]
  decide
theorem fw_neg {row : List Nat} (hr : row.all finB = true) : FW (row.map ngW ++ [4607182418800017408]) := fun x hx => by
  rcases List.mem_append.1 hx with h | h
  · obtain ⟨y, hy, rfl⟩ := List.mem_map.1 h
    exact (ngW_fin (List.all_eq_true.1 hr y hy)).2
  · simp at h; subst h; decide
theorem fw_snoc {xs : List Nat} {b : Nat} (h : FW xs) (hb : b < 18446744073709551616) : FW (xs ++ [b]) := fun x hx => by
  rcases List.mem_append.1 hx with h1 | h1
  · exact h x h1
  · simp at h1; subst h1; exact hb
theorem own_snoc {w : World} {B n b : Nat} {v : Value} {ns zs : List Nat} (hz : ns ++ [b] = zs) (hn : ns.length = n) (h : w.ownsRow B 48 1 v (n + 1) (fv ns ++ [.float .f64 b])) : ∃ ao cap, v = .slice ao zs.length cap ∧ GRow w ao zs ∧ Frs B ao := by
  have h2 : w.ownsRow B 48 1 v zs.length (fv zs) := by
    subst hz hn
    rw [fv_snoc, show (ns ++ [b]).length = ns.length + 1 by simp]
    exact h
  obtain ⟨ao, cap, h3, h4, _, h5⟩ := owned_grow h2
  exact ⟨ao, cap, h3, h4, h5⟩
set_option maxRecDepth 100000 in
set_option maxHeartbeats 2000000 in
theorem leftat_any (row xs : List Nat) (b : Nat) (ro xo : Option Addr) (rc xc : Nat) (w : World) (hT : TabW w) (hr : GRow w ro row) (hx : GRow w xo xs) (fr : FW row) (fx : FW xs) (hb : b < 18446744073709551616) (fb : finB b = true) (hrf : row.all finB = true) (hxf : xs.all finB = true) (hl : xs.length = row.length) (hn : row.length ≤ 4096) :
    Calls Tryz.prog 26 #[.slice ro row.length rc, .slice xo xs.length xc, .float .f64 b] w fun e w' => e = .returned (.tuple #[.float .f64 (lfW row xs b), .int .i64 0]) ∧ Below w.heap.size w w' := by
  obtain ⟨i0, hi, hz0, hz1, hz2⟩ := info_parts Tryz.infoF
  have EA := dxA_left hrf hxf fb hl
  have fz := fw_neg hrf
  have fu := fw_snoc fx hb
  have cs : ∀ W, GRow W ro row → Calls Tryz.prog 49 #[.float .f64 13830554455654793216, .slice ro row.length rc] W fun e w' => ∃ v, e = .returned v ∧ w'.ownsRow W.heap.size 48 1 v row.length (fv (row.map ngW)) ∧ Below W.heap.size W w' := fun W h => by
    refine (vscale_own 13830554455654793216 row ro rc W (by decide) h fr (by omega)).mono ?_
    rintro e w' ⟨v, rfl, rs, l1, n1, o1, b1⟩
    have e := neg_list fr hrf l1 n1
    subst e
    rw [l1] at o1
    exact ⟨v, rfl, o1, b1⟩
  have cc := fun W h => fclone_own xs xo xc W h (by omega)
  obtain ⟨ns, hns⟩ : ∃ ns, row.map ngW = ns := ⟨_, rfl⟩
  rw [hns] at EA fz cs
  have ln : ns.length = row.length := by rw [← hns]; simp
  obtain ⟨zs, hzs⟩ : ∃ zs, ns ++ [4607182418800017408] = zs := ⟨_, rfl⟩
  obtain ⟨us, hus⟩ : ∃ us, xs ++ [b] = us := ⟨_, rfl⟩
  have lz : zs.length = row.length + 1 := by rw [← hzs]; simp [ln]
  have lu : us.length = row.length + 1 := by rw [← hus]; simp [hl]
  have Z1 : ∀ (v : Value) (W : World) (B : Nat), W.ownsRow B 48 1 v (row.length + 1) (fv ns ++ [.float .f64 4607182418800017408]) → ∃ ao cap, v = .slice ao zs.length cap ∧ GRow W ao zs ∧ Frs B ao := fun v W B h => own_snoc hzs ln h
  have U1 : ∀ (v : Value) (W : World) (B : Nat), W.ownsRow B 48 1 v (xs.length + 1) (fv xs ++ [.float .f64 b]) → ∃ ao cap, v = .slice ao us.length cap ∧ GRow W ao us ∧ Frs B ao := fun v W B h => own_snoc hus rfl h
  rw [hzs] at EA fz
  rw [hus] at EA fu
  have cd : ∀ W ao cap bo cap2, TabW W → GRow W ao zs → GRow W bo us → Calls Tryz.prog 48 #[.slice ao zs.length cap, .slice bo us.length cap2, .int .i8 0] W fun e w' => e = .returned (.tuple #[.float .f64 (lfW row xs b), .int .i64 0]) ∧ Below W.heap.size W w' := fun W ao cap bo cap2 h1 h2 h3 => by
    have := dotx_any zs us ao bo cap cap2 0 W h1 h2 h3 fz fu (by omega) (by omega)
    rw [EA] at this
    exact this
  generalize lfW row xs b = R at *
  have hxl : xs.length ≤ 4096 := by omega
  clear EA fz fu lz lu hzs hus hns ln fr fx hrf hxf fb hb hl
  generalize fv ns = fn at *
  generalize fv xs = fx at *
  go_enter Tryz.func26, Tryz.ntmps26
  go_wp2_with (first
    | (go_at_call 49; refine (cs _ hr).mono ?_; rintro e w1 ⟨v, rfl, o1, b1⟩; have s1 := b1.size)
    | (go_at_call 50; refine (cc _ (hx.below b2)).mono ?_; rintro e w3 ⟨u, rfl, o3, b3⟩; have s3 := b3.size)
    | (go_at_call 48; refine (cd _ _ _ _ _ (tabW_below hT b5) (g2.below b4) g4).mono ?_; rintro e w5 ⟨rfl, b6⟩)
    | (at_builtin; have q3 := o3; refine wpList_append_own _ rfl _ _ 22 rfl w2.heap.size 48 i0 (.float .f64 0) 1 8 Tryz.underlying22 hi hz0 hz1 hz2 rfl (by decide) _ _ _ rfl (q3.alloc _) _ 1 1 [.float .f64 b] rfl rfl (World.news_of_block (cs := #[.float .f64 b]) (t := 48) (fr := (0, 0)) (heap_alloc_new _ _)) (by simp [Value.oneCell']) (by unfold maxLen; omega) (by omega) (by simp; omega) ?_; intro v' w4 hown1 hgrow _; obtain ⟨ao4, cap4, rfl, g4, _⟩ := U1 _ _ _ hown1; have b4 := (b3.alloc s3 _).grown hgrow (by simp; omega) (fun k hk => (o3.lt k hk).1); have b5 := b2.trans (b4.mono b2.size))
    | (at_builtin; refine wpList_append_own _ rfl _ _ 22 rfl w.heap.size 48 i0 (.float .f64 0) 1 8 Tryz.underlying22 hi hz0 hz1 hz2 rfl (by decide) _ _ _ rfl (o1.alloc _) _ 1 1 [.float .f64 4607182418800017408] rfl rfl (World.news_of_block (cs := #[.float .f64 4607182418800017408]) (t := 48) (fr := (0, 0)) (heap_alloc_new _ _)) (by simp [Value.oneCell']) (by unfold maxLen; omega) (by omega) (by simp; omega) ?_; intro v' w2 hown1 hgrow _; obtain ⟨ao2, cap2, rfl, g2, _⟩ := Z1 _ _ _ hown1; have b2 := (b1.alloc s1 _).grown hgrow (by simp; omega) (fun k hk => (o1.lt k hk).1)))
  exact bodyPost_ret (v := .tuple #[.float .f64 R, .int .i64 0]) (by simp [results, Tryz.results26, go_sem]) rfl ⟨rfl, b5.trans (b6.mono b5.size)⟩
end Go.Proofs.YtmbcmhncicbbjaaGreatDoor
