/- The document's Value and Right. (Written by mkrv3.py.) -/
import Derived.Test.YtnclddfljghebaaGreatDoorVA
namespace Go.Proofs.YtnclddfljghebaaGreatDoor
open Go.RowKit

/-- What is right, by the document's tests. -/
theorem rt_cases (neg : Bool) (xs ys : List Nat) (hL : Lm xs) (hM : Lm ys) :
    ((256 < xs.length ∨ 256 < ys.length ∨ (lo (vl xs)).length ≠ xs.length ∨ (lo (vl ys)).length ≠ ys.length ∨ ys.length = 0) → rtB neg xs ys = false) ∧
    (¬ 256 < xs.length → ¬ 256 < ys.length → ¬ (lo (vl xs)).length ≠ xs.length → ¬ (lo (vl ys)).length ≠ ys.length → ¬ ys.length = 0 →
      vl ys ≠ 0 ∧ (xs.length = 0 → rtB neg xs ys = (!neg && (vl ys == 1))) ∧ (xs.length ≠ 0 → rtB neg xs ys = (Nat.gcd (vl xs) (vl ys) == 1))) := by
  have K : ∀ {zs : List Nat}, Lm zs → zs.length ≠ 0 → ((lo (vl zs)).length = zs.length ↔ zs.getD (zs.length - 1) 0 ≠ 0) := by
    intro zs hz h0
    constructor
    · intro h hl
      have h2 : vl zs < 2 ^ (64 * (zs.length - 1)) := by
        have e := vl_take_succ (xs := zs) (k := zs.length - 1) (by omega)
        rw [List.take_of_length_le (by omega), hl, Nat.mul_zero, Nat.add_zero] at e
        rw [e]
        have := vl_lt (xs := zs.take (zs.length - 1)) (fun x hx => hz x (List.mem_of_mem_take hx))
        rw [List.length_take, Nat.min_eq_left (by omega)] at this
        exact this
      have h3 := nl_le h2
      rw [lo_length] at h
      omega
    · intro h
      rw [lo_vl hz (Or.inr h)]
  have F : ∀ {zs : List Nat}, Lm zs → (fitL zs = true ↔ (zs.length ≠ 0 ∧ ¬ 256 < zs.length ∧ (lo (vl zs)).length = zs.length)) := by
    intro zs hz
    unfold fitL
    simp only [Bool.and_eq_true, decide_eq_true_eq]
    constructor
    · rintro ⟨⟨a, b⟩, c⟩
      exact ⟨by omega, by omega, (K hz (by omega)).2 c⟩
    · rintro ⟨a, b, c⟩
      exact ⟨⟨by omega, by omega⟩, (K hz a).1 c⟩
  have O : ys = [1] ↔ (ys.length ≠ 0 ∧ ¬ 256 < ys.length ∧ (lo (vl ys)).length = ys.length ∧ vl ys = 1) := by
    constructor
    · rintro rfl
      exact ⟨by decide, by decide, by decide, by decide⟩
    · rintro ⟨a, b, c, d⟩
      have e := lo_vl hM (Or.inr ((K hM a).1 c))
      rw [d, lo1] at e
      exact e.symm
  constructor
  · intro h
    unfold rtB
    by_cases h0 : xs.length = 0
    · rw [if_pos h0]
      have hx : vl xs = 0 := by rw [List.eq_nil_of_length_eq_zero h0]; rfl
      have hx2 : (lo (vl xs)).length = xs.length := by rw [hx, h0]; rfl
      have : ¬ ys = [1] := by
        rw [O]
        rintro ⟨a, b, c, d⟩
        omega
      rw [decide_eq_false this, Bool.and_false]
    · rw [if_neg h0]
      have : ¬ (fitL xs = true ∧ fitL ys = true) := by
        rw [F hL, F hM]
        rintro ⟨⟨a, b, c⟩, d, e, f⟩
        omega
      cases hx : fitL xs <;> cases hy : fitL ys <;> simp_all
  · intro a b c d e
    have c' : (lo (vl xs)).length = xs.length := by omega
    have d' : (lo (vl ys)).length = ys.length := by omega
    have fy := (F hM).2 ⟨e, b, d'⟩
    refine ⟨(fit_pos fy).1, fun h0 => ?_, fun h0 => ?_⟩
    · unfold rtB
      rw [if_pos h0]
      congr 1
      rw [Bool.eq_iff_iff, decide_eq_true_iff, beq_iff_eq, O]
      exact ⟨fun h => h.2.2.2, fun h => ⟨e, b, d', h⟩⟩
    · unfold rtB
      rw [if_neg h0, (F hL).2 ⟨h0, a, c'⟩, fy]
      rfl
set_option maxRecDepth 100000 in
set_option maxHeartbeats 4000000 in
theorem value7_any (neg : Bool) (xs ys : List Nat) (ao bo : Option Addr) (cap bcap : Nat) (w : World) (h1 : NS w ao cap xs) (h2 : NS w bo bcap ys) (hL1 : Lm xs) (hL2 : Lm ys) (n1 : xs.length ≤ 1099511627776) (n2 : ys.length ≤ 1099511627776) :
    Calls Tryz.prog 43 #[.agg #[.bool neg, .slice ao xs.length cap, .slice bo ys.length bcap]] w (GaveFr w neg (vl xs) (vl ys)) := by
  have OB := B3q.new (w.alloc (.cells #[.bool neg, .slice ao xs.length cap, .slice bo ys.length bcap] 24)) (.bool false) (.slice none 0 0) (.slice none 0 0) 59
  have AB := (B3q.new w (.bool neg) (.slice ao xs.length cap) (.slice bo ys.length bcap) 24).alloc (.cells #[.bool false, .slice none 0 0, .slice none 0 0] 59)
  have hs1 : (w.alloc (.cells #[.bool neg, .slice ao xs.length cap, .slice bo ys.length bcap] 24)).heap.size = w.heap.size + 1 := by simp
  rw [hs1] at OB
  have hb0 : Below w.heap.size w ((w.alloc (.cells #[.bool neg, .slice ao xs.length cap, .slice bo ys.length bcap] 24)).alloc (.cells #[.bool false, .slice none 0 0, .slice none 0 0] 59)) := ((Below.refl _ _).alloc (Nat.le_refl _) _).alloc (by rw [hs1]; omega) _
  have A1 := h1.below hb0
  have A2 := h2.below hb0
  go_enter Tryz.func43, Tryz.ntmps43
  go_upto_region 1 with fail
  generalize (w.alloc (.cells #[.bool neg, .slice ao xs.length cap, .slice bo ys.length bcap] 24)).alloc (.cells #[.bool false, .slice none 0 0, .slice none 0 0] 59) = W0 at *
  obtain ⟨x0, x1, x2, _, _, _, _, xlt⟩ := id AB
  clear hs1 h1 h2
  obtain ⟨FL, hFL⟩ : ∃ f : Nat → Lz, f = (fun j => match j with | 0 => .is (.pointer (some ⟨w.heap.size, 0, none⟩)) | 1 => .is (.bool neg) | 2 => .is (.pointer (some ⟨w.heap.size, 1, none⟩)) | 3 => .is (.slice ao xs.length cap) | 4 => .gn (fun a x => ∃ ao ac, x = .slice ao (lo (vl xs)).length ac ∧ NS a ao ac (lo (vl xs))) (fun a a' x h hb => h.elim fun ao h => h.elim fun ac h => ⟨ao, ac, h.1, h.2.below hb⟩) | 5 => .is (.pointer (some ⟨w.heap.size, 2, none⟩)) | 6 => .is (.slice bo ys.length bcap) | 7 => .gn (fun a x => ∃ ao ac, x = .slice ao (lo (vl ys)).length ac ∧ NS a ao ac (lo (vl ys))) (fun a a' x h hb => h.elim fun ao h => h.elim fun ac h => ⟨ao, ac, h.1, h.2.below hb⟩) | 8 => .gn (fun a x => ∃ ao ac bo bc, x = .agg #[.bool neg, .slice ao (lo (vl xs)).length ac, .slice bo (lo (vl ys)).length bc] ∧ NS a ao ac (lo (vl xs)) ∧ NS a bo bc (lo (vl ys))) (fun a a' x h hb => h.elim fun ao h => h.elim fun ac h => h.elim fun bo h => h.elim fun bc h => ⟨ao, ac, bo, bc, h.1, h.2.1.below hb, h.2.2.below hb⟩) | 9 => .tr | _ => .tr) := ⟨_, rfl⟩
  have F0 := congrFun hFL 0
  have F1 := congrFun hFL 1
  have F2 := congrFun hFL 2
  have F3 := congrFun hFL 3
  have F4 := congrFun hFL 4
  have F5 := congrFun hFL 5
  have F6 := congrFun hFL 6
  have F7 := congrFun hFL 7
  have F8 := congrFun hFL 8
  have F9 := congrFun hFL 9
  simp only at F0 F1 F2 F3 F4 F5 F6 F7 F8 F9
  clear hFL
  refine region_rgT (by kernel_rfl) (fun v => ⟨#[Value.agg #[Value.bool neg, Value.slice ao xs.length cap, Value.slice bo ys.length bcap], Value.pointer (some { block := w.heap.size, off := 0 }), Value.pointer (some { block := w.heap.size + 1, off := 0 }), v 0, v 1, v 2, v 3, v 4, v 5, v 6, v 7, v 8], []⟩) 9 (fun j => decide (j ≠ 9)) (fun j w0 x => (FL j).holds w0 x) (fun j x => match j with  | _ => True) (fun a => ∃ ro rc so sc, B3q a (w.heap.size + 1) (.bool neg) (.slice ro (lo (vl xs)).length rc) (.slice so (lo (vl ys)).length sc) ∧ LS a ro rc (lo (vl xs)) ∧ LS a so sc (lo (vl ys)) ∧ Below w.heap.size w a) (fun j => match j with  | _ => undef) rfl ?_ ?_
  · intro L v w' i hL hS hi
    obtain ⟨h1, h2, h3⟩ := mem_ready hi
    have h1 : i < 10 := h1
    try dsimp only
    have hcs : i = 0 ∨ i = 1 ∨ i = 2 ∨ i = 3 ∨ i = 4 ∨ i = 5 ∨ i = 6 ∨ i = 7 ∨ i = 8 ∨ i = 9 := by omega
    clear h1 h2 h3
    rcases hcs with rfl | rfl | rfl | rfl | rfl | rfl | rfl | rfl | rfl | rfl
    · have hns := hS.open hL hi rfl
      have hB := hS.a hns
      refine wpOpT_of (fun K hK => ?_)
      unfold wpOp
      go_simp
      refine Or.inl ?_
      exact hK _ _ ⟨putT v 0 (.pointer (some ⟨w.heap.size, 0, none⟩)), (by simp [putT]), hS.step (Lz.mono FL) hL hi rfl (by decide) (Below.refl _ _) (Lz.toIs F0)⟩
    · have hns := hS.open hL hi rfl
      have hB := hS.a hns
      have e0 := Lz.ofIs (hS.f hns 0 rfl (ready_dep hi 0 (by kernel_rfl))) F0
      have r0 : w'.cell? ⟨w.heap.size, 0, none⟩ = some _ := (hB.cell (p := ⟨w.heap.size, 0, none⟩) xlt).trans x0
      refine wpOpT_of (fun K hK => ?_)
      unfold wpOp
      simp only [e0]
      go_simp
      refine Or.inl ?_
      exact hK _ _ ⟨putT v 1 (.bool neg), (by simp [putT, e0]), hS.step (Lz.mono FL) hL hi rfl (by decide) (Below.refl _ _) (Lz.toIs F1)⟩
    · have hns := hS.open hL hi rfl
      have hB := hS.a hns
      refine wpOpT_of (fun K hK => ?_)
      unfold wpOp
      go_simp
      refine Or.inl ?_
      exact hK _ _ ⟨putT v 2 (.pointer (some ⟨w.heap.size, 1, none⟩)), (by simp [putT]), hS.step (Lz.mono FL) hL hi rfl (by decide) (Below.refl _ _) (Lz.toIs F2)⟩
    · have hns := hS.open hL hi rfl
      have hB := hS.a hns
      have e2 := Lz.ofIs (hS.f hns 2 rfl (ready_dep hi 2 (by kernel_rfl))) F2
      have r1 : w'.cell? ⟨w.heap.size, 1, none⟩ = some _ := (hB.cell (p := ⟨w.heap.size, 1, none⟩) xlt).trans x1
      refine wpOpT_of (fun K hK => ?_)
      unfold wpOp
      simp only [e2]
      go_simp
      refine Or.inl ?_
      exact hK _ _ ⟨putT v 3 (.slice ao xs.length cap), (by simp [putT, e2]), hS.step (Lz.mono FL) hL hi rfl (by decide) (Below.refl _ _) (Lz.toIs F3)⟩
    · have hns := hS.open hL hi rfl
      have hB := hS.a hns
      have e3 := Lz.ofIs (hS.f hns 3 rfl (ready_dep hi 3 (by kernel_rfl))) F3
      refine wpOpT_of (fun K hK => ?_)
      unfold wpOp
      simp only [e3]
      go_simp
      refine Or.inl ?_
      go_at_call 41
      refine (natTrim_any xs ao cap _ (A1.below hB) hL1 (by omega)).mono ?_
      rintro e w1 ⟨ro, rc, rfl, kr, _, bc⟩
      exact hK _ _ ⟨putT v 4 (.slice ro (lo (vl xs)).length rc), (by simp [putT, e3]), hS.step (Lz.mono FL) hL hi rfl (by decide) (bc) (Lz.toGn F4 (⟨_, _, rfl, kr⟩))⟩
    · have hns := hS.open hL hi rfl
      have hB := hS.a hns
      refine wpOpT_of (fun K hK => ?_)
      unfold wpOp
      go_simp
      refine Or.inl ?_
      exact hK _ _ ⟨putT v 5 (.pointer (some ⟨w.heap.size, 2, none⟩)), (by simp [putT]), hS.step (Lz.mono FL) hL hi rfl (by decide) (Below.refl _ _) (Lz.toIs F5)⟩
    · have hns := hS.open hL hi rfl
      have hB := hS.a hns
      have e5 := Lz.ofIs (hS.f hns 5 rfl (ready_dep hi 5 (by kernel_rfl))) F5
      have r2 : w'.cell? ⟨w.heap.size, 2, none⟩ = some _ := (hB.cell (p := ⟨w.heap.size, 2, none⟩) xlt).trans x2
      refine wpOpT_of (fun K hK => ?_)
      unfold wpOp
      simp only [e5]
      go_simp
      refine Or.inl ?_
      exact hK _ _ ⟨putT v 6 (.slice bo ys.length bcap), (by simp [putT, e5]), hS.step (Lz.mono FL) hL hi rfl (by decide) (Below.refl _ _) (Lz.toIs F6)⟩
    · have hns := hS.open hL hi rfl
      have hB := hS.a hns
      have e6 := Lz.ofIs (hS.f hns 6 rfl (ready_dep hi 6 (by kernel_rfl))) F6
      refine wpOpT_of (fun K hK => ?_)
      unfold wpOp
      simp only [e6]
      go_simp
      refine Or.inl ?_
      go_at_call 41
      refine (natTrim_any ys bo bcap _ (A2.below hB) hL2 (by omega)).mono ?_
      rintro e w1 ⟨ro, rc, rfl, kr, _, bc⟩
      exact hK _ _ ⟨putT v 7 (.slice ro (lo (vl ys)).length rc), (by simp [putT, e6]), hS.step (Lz.mono FL) hL hi rfl (by decide) (bc) (Lz.toGn F7 (⟨_, _, rfl, kr⟩))⟩
    · have hns := hS.open hL hi rfl
      have hB := hS.a hns
      have e1 := Lz.ofIs (hS.f hns 1 rfl (ready_dep hi 1 (by kernel_rfl))) F1
      obtain ⟨ao4, ac4, e4, u4⟩ := Lz.ofGn (hS.f hns 4 rfl (ready_dep hi 4 (by kernel_rfl))) F4
      obtain ⟨ao7, ac7, e7, u7⟩ := Lz.ofGn (hS.f hns 7 rfl (ready_dep hi 7 (by kernel_rfl))) F7
      refine wpOpT_of (fun K hK => ?_)
      unfold wpOp
      simp only [e1, e4, e7]
      go_simp
      refine Or.inl ?_
      exact hK _ _ ⟨putT v 8 (.agg #[.bool neg, .slice ao4 (lo (vl xs)).length ac4, .slice ao7 (lo (vl ys)).length ac7]), (by simp [putT, e1, e4, e7]), hS.step (Lz.mono FL) hL hi rfl (by decide) (Below.refl _ _) (Lz.toGn F8 (⟨_, _, _, _, rfl, u4, u7⟩))⟩
    · have hns := fun q => offT_not (by rw [hL]; exact (mem_ready hi).1) (mem_ready hi).2.1 q
      have hB := hS.a hns
      obtain ⟨ao8, ac8, bo8, bc8, e8, u8, t8⟩ := Lz.ofGn (hS.f hns 8 rfl (ready_dep hi 8 (by kernel_rfl))) F8
      have OB3 := OB.below hB
      obtain ⟨p0, p1, p2, s0, s1, s2, _, _⟩ := id OB3
      have hb3 := hb0.trans (hB.mono hb0.size)
      refine wpOpT_of (fun K hK => ?_)
      unfold wpOp
      simp only [e8]
      go_simp
      refine Or.inl ?_
      exact hK _ _ ⟨putT v 9 undef, (by simp [putT, e8]), hS.last hL hi (by kernel_rfl) (⟨_, _, _, _, OB3.fill _ _ _, (ns_ls u8).threeB OB3 _ _ _, (ns_ls t8).threeB OB3 _ _ _, below_three hb3 (by omega) _ _ _⟩)⟩
  · intro L v w' hL hS hr
    have on := all_done hL hr (by kernel_rfl)
    obtain ⟨ro, rc, so, sc, G, G1, G2, hb4⟩ := hS.z (on 9 (by decide))
    try dsimp only
    clear hS on hr
    obtain ⟨z0, z1, z2, _, _, _, _, _⟩ := id G
    go_wp2
    exact bodyPost_ret (v := .agg #[.bool neg, .slice ro (lo (vl xs)).length rc, .slice so (lo (vl ys)).length sc]) (by simp [results, Tryz.results43, go_sem, z0, z1, z2]) rfl ⟨ro, rc, so, sc, rfl, ls_ns G1, ls_ns G2, hb4⟩
set_option maxRecDepth 100000 in
set_option maxHeartbeats 16000000 in
theorem dright7_any (neg : Bool) (xs ys : List Nat) (ao bo : Option Addr) (cap bcap : Nat) (w : World) (h1 : NS w ao cap xs) (h2 : NS w bo bcap ys) (hL1 : Lm xs) (hL2 : Lm ys) (n1 : xs.length ≤ 1099511627776) (n2 : ys.length ≤ 1099511627776) :
    Calls Tryz.prog 12 #[.agg #[.bool neg, .slice ao xs.length cap, .slice bo ys.length bcap]] w fun e w' => e = .returned (.bool (rtB neg xs ys)) ∧ Below w.heap.size w w' := by
  have AB := B3q.new w (.bool neg) (.slice ao xs.length cap) (.slice bo ys.length bcap) 24
  have hb0 : Below w.heap.size w (w.alloc (.cells #[.bool neg, .slice ao xs.length cap, .slice bo ys.length bcap] 24)) := (Below.refl _ _).alloc (Nat.le_refl _) _
  have A1 := h1.below hb0
  have A2 := h2.below hb0
  have HR := rt_cases neg xs ys hL1 hL2
  obtain ⟨rt, hrt⟩ : ∃ rt, rtB neg xs ys = rt := ⟨_, rfl⟩
  rw [hrt] at HR ⊢
  clear hrt
  have ct := fun W (h : NS W ao cap xs) => natTrim_any xs ao cap W h hL1 (by omega)
  have cu := fun W (h : NS W bo bcap ys) => natTrim_any ys bo bcap W h hL2 (by omega)
  have co := fun W => one7_any W
  have cg := fun W (a1 : NS W ao cap xs) (a2 : NS W bo bcap ys) => natGcd_any xs ys ao bo cap bcap W a1 a2 hL1 hL2 n1 n2
  have gl : (lo (Nat.gcd (vl xs) (vl ys))).length ≤ 1099511627776 ∨ vl ys = 0 := by
    rcases Nat.eq_zero_or_pos (vl ys) with h | h
    · exact Or.inr h
    · exact Or.inl (Nat.le_trans (lo_mono (Nat.le_of_dvd h (Nat.gcd_dvd_right _ _))) (Nat.le_trans (lo_len hL2) n2))
  have cy := fun W oo oc (a2 : NS W bo bcap ys) (a3 : NS W oo oc (lo 1)) => natCmp_any ys (lo 1) bo oo bcap oc W a2 a3 hL2 (lo_lm 1) (by omega) (by rw [lo1]; simp)
  simp only [vl_lo] at cy
  have c1 := fun W go gc oo oc (hg : (lo (Nat.gcd (vl xs) (vl ys))).length ≤ 1099511627776) (a3 : NS W go gc (lo (Nat.gcd (vl xs) (vl ys)))) (a4 : NS W oo oc (lo 1)) => cmp1_any (Nat.gcd (vl xs) (vl ys)) go oo gc oc W a3 a4 hg
  have hcg : Hid ((sgI ((Nat.gcd (vl xs) (vl ys) : Int) - ((1 : Nat) : Int)) == 0) = (Nat.gcd (vl xs) (vl ys) == 1)) := sg_is1
  have hcy : Hid ((sgI ((vl ys : Int) - ((1 : Nat) : Int)) == 0) = (vl ys == 1)) := sg_is1
  generalize sgI ((Nat.gcd (vl xs) (vl ys) : Int) - ((1 : Nat) : Int)) = sg at *
  generalize sgI ((vl ys : Int) - ((1 : Nat) : Int)) = sy at *
  go_enter Tryz.func12, Tryz.ntmps12
  go_upto_region 1 with fail
  generalize w.alloc (.cells #[.bool neg, .slice ao xs.length cap, .slice bo ys.length bcap] 24) = W0 at *
  obtain ⟨x0, x1, x2, _, _, _, _, xlt⟩ := id AB
  clear h1 h2
  by_cases k0 : 256 < xs.length
  · obtain rfl : rt = false := HR.1 (Or.inl k0)
    have i0 : (256 : Int) < (xs.length : Int) := by omega
    clear k0 HR cg co cy c1 hcg hcy gl
    obtain ⟨FL, hFL⟩ : ∃ f : Nat → Lz, f = (fun j => match j with | 0 => .is (.pointer (some ⟨w.heap.size, 1, none⟩)) | 1 => .is (.slice ao xs.length cap) | 2 => .is (.int .i64 xs.length) | 3 => .is (.bool true) | 4 => .is (.bool true) | 5 => .tr | 6 => .tr | 7 => .tr | 8 => .tr | 9 => .is (.bool true) | 10 => .is (.bool true) | 11 => .tr | 12 => .tr | 13 => .tr | 14 => .tr | 15 => .tr | 16 => .tr | 17 => .tr | 18 => .tr | 19 => .is (.bool true) | 20 => .is (.bool true) | 21 => .tr | 22 => .tr | 23 => .tr | 24 => .tr | 25 => .tr | 26 => .tr | 27 => .tr | 28 => .tr | 29 => .is (.bool true) | 30 => .is (.bool true) | 31 => .tr | 32 => .tr | 33 => .tr | 34 => .tr | 35 => .is (.bool true) | _ => .tr) := ⟨_, rfl⟩
    have F0 := congrFun hFL 0
    have F1 := congrFun hFL 1
    have F2 := congrFun hFL 2
    have F3 := congrFun hFL 3
    have F4 := congrFun hFL 4
    have F5 := congrFun hFL 5
    have F6 := congrFun hFL 6
    have F7 := congrFun hFL 7
    have F8 := congrFun hFL 8
    have F9 := congrFun hFL 9
    have F10 := congrFun hFL 10
    have F11 := congrFun hFL 11
    have F12 := congrFun hFL 12
    have F13 := congrFun hFL 13
    have F14 := congrFun hFL 14
    have F15 := congrFun hFL 15
    have F16 := congrFun hFL 16
    have F17 := congrFun hFL 17
    have F18 := congrFun hFL 18
    have F19 := congrFun hFL 19
    have F20 := congrFun hFL 20
    have F21 := congrFun hFL 21
    have F22 := congrFun hFL 22
    have F23 := congrFun hFL 23
    have F24 := congrFun hFL 24
    have F25 := congrFun hFL 25
    have F26 := congrFun hFL 26
    have F27 := congrFun hFL 27
    have F28 := congrFun hFL 28
    have F29 := congrFun hFL 29
    have F30 := congrFun hFL 30
    have F31 := congrFun hFL 31
    have F32 := congrFun hFL 32
    have F33 := congrFun hFL 33
    have F34 := congrFun hFL 34
    have F35 := congrFun hFL 35
    simp only at F0 F1 F2 F3 F4 F5 F6 F7 F8 F9 F10 F11 F12 F13 F14 F15 F16 F17 F18 F19 F20 F21 F22 F23 F24 F25 F26 F27 F28 F29 F30 F31 F32 F33 F34 F35
    clear hFL
    refine region_rgT (by kernel_rfl) (fun v1 => ⟨#[Value.agg #[Value.bool neg, Value.slice ao xs.length cap, Value.slice bo ys.length bcap], Value.pointer (some { block := w.heap.size, off := 0 }), Value.bool false, v1 0, v1 1, v1 2, v1 3, v1 4, v1 5, v1 6, v1 7, v1 8, v1 9, v1 10, v1 11, v1 12, v1 13, v1 14, v1 15, v1 16, v1 17, v1 18, v1 19, v1 20, v1 21, v1 22, v1 23, v1 24, v1 25, v1 26, v1 27, v1 28, v1 29, v1 30, v1 31, v1 32, v1 33, v1 34, v1 35, undef, undef, undef, undef, undef, undef, undef, undef, undef, undef, undef, undef, undef, undef, undef, undef, undef, undef, undef, undef, undef, undef], []⟩) 1036 (fun j => true) (fun j w0 x => (FL j).holds w0 x) (fun j x => match j with  | _ => True) (fun _ => True) (fun j => match j with  | _ => undef) rfl ?_ ?_
    · intro L v1 w1a i hL hS hi
      obtain ⟨h1, h2, h3⟩ := mem_ready hi
      have h1 : i < 36 := h1
      try dsimp only
      have hcs : i = 0 ∨ i = 1 ∨ i = 2 ∨ i = 3 ∨ i = 4 ∨ i = 5 ∨ i = 6 ∨ i = 7 ∨ i = 8 ∨ i = 9 ∨ i = 10 ∨ i = 11 ∨ i = 12 ∨ i = 13 ∨ i = 14 ∨ i = 15 ∨ i = 16 ∨ i = 17 ∨ i = 18 ∨ i = 19 ∨ i = 20 ∨ i = 21 ∨ i = 22 ∨ i = 23 ∨ i = 24 ∨ i = 25 ∨ i = 26 ∨ i = 27 ∨ i = 28 ∨ i = 29 ∨ i = 30 ∨ i = 31 ∨ i = 32 ∨ i = 33 ∨ i = 34 ∨ i = 35 := by omega
      clear h1 h2 h3
      rcases hcs with rfl | rfl | rfl | rfl | rfl | rfl | rfl | rfl | rfl | rfl | rfl | rfl | rfl | rfl | rfl | rfl | rfl | rfl | rfl | rfl | rfl | rfl | rfl | rfl | rfl | rfl | rfl | rfl | rfl | rfl | rfl | rfl | rfl | rfl | rfl | rfl
      · have hns := hS.open hL hi rfl
        have hB := hS.a hns
        refine wpOpT_of (fun K hK => ?_)
        unfold wpOp
        go_simp
        refine Or.inl ?_
        exact hK _ _ ⟨putT v1 0 (.pointer (some ⟨w.heap.size, 1, none⟩)), (by simp [putT]), hS.step (Lz.mono FL) hL hi rfl (by decide) (Below.refl _ _) (Lz.toIs F0)⟩
      · have hns := hS.open hL hi rfl
        have hB := hS.a hns
        have e0 := Lz.ofIs (hS.f hns 0 rfl (ready_dep hi 0 (by kernel_rfl))) F0
        have r1 : w1a.cell? ⟨w.heap.size, 1, none⟩ = some _ := (hB.cell (p := ⟨w.heap.size, 1, none⟩) xlt).trans x1
        refine wpOpT_of (fun K hK => ?_)
        unfold wpOp
        simp only [e0]
        go_simp
        refine Or.inl ?_
        exact hK _ _ ⟨putT v1 1 (.slice ao xs.length cap), (by simp [putT, e0]), hS.step (Lz.mono FL) hL hi rfl (by decide) (Below.refl _ _) (Lz.toIs F1)⟩
      · have hns := hS.open hL hi rfl
        have hB := hS.a hns
        have e1 := Lz.ofIs (hS.f hns 1 rfl (ready_dep hi 1 (by kernel_rfl))) F1
        refine wpOpT_of (fun K hK => ?_)
        unfold wpOp
        simp only [e1]
        go_simp
        refine Or.inl ?_
        exact hK _ _ ⟨putT v1 2 (.int .i64 xs.length), (by simp [putT, e1]), hS.step (Lz.mono FL) hL hi rfl (by decide) (Below.refl _ _) (Lz.toIs F2)⟩
      · have hns := hS.open hL hi rfl
        have hB := hS.a hns
        have e2 := Lz.ofIs (hS.f hns 2 rfl (ready_dep hi 2 (by kernel_rfl))) F2
        refine wpOpT_of (fun K hK => ?_)
        unfold wpOp
        simp only [e2]
        go_simp
        refine Or.inl ?_
        exact hK _ _ ⟨putT v1 3 (.bool true), (by simp [putT, e2]), hS.step (Lz.mono FL) hL hi rfl (by decide) (Below.refl _ _) (Lz.toIs F3)⟩
      · have hns := hS.open hL hi rfl
        have hB := hS.a hns
        have e3 := Lz.ofIs (hS.f hns 3 rfl (ready_dep hi 3 (by kernel_rfl))) F3
        refine wpOpT_of (fun K hK => ?_)
        unfold wpOp
        simp only [e3]
        go_simp
        refine Or.inl ?_
        exact hK _ _ ⟨putT v1 4 (.bool true), (by simp [putT, e3]), hS.step (Lz.mono FL) hL hi rfl (by decide) (Below.refl _ _) (Lz.toIs F4)⟩
      · have hns := hS.open hL hi rfl
        have hB := hS.a hns
        have e4 := Lz.ofIs (hS.f hns 4 rfl (ready_dep hi 4 (by kernel_rfl))) F4
        refine wpOpT_of (fun K hK => ?_)
        unfold wpOp
        simp only [e4]
        go_simp
        exact hK _ _ ⟨putT v1 5 undef, (by simp [putT, e4]), hS.step (Lz.mono FL) hL hi rfl (by decide) (Below.refl _ _) (Lz.toTr F5)⟩
      · have hns := hS.open hL hi rfl
        have hB := hS.a hns
        have e4 := Lz.ofIs (hS.f hns 4 rfl (ready_dep hi 4 (by kernel_rfl))) F4
        refine wpOpT_of (fun K hK => ?_)
        unfold wpOp
        simp only [e4]
        go_simp
        exact hK _ _ ⟨putT v1 6 undef, (by simp [putT, e4]), hS.step (Lz.mono FL) hL hi rfl (by decide) (Below.refl _ _) (Lz.toTr F6)⟩
      · have hns := hS.open hL hi rfl
        have hB := hS.a hns
        have e4 := Lz.ofIs (hS.f hns 4 rfl (ready_dep hi 4 (by kernel_rfl))) F4
        refine wpOpT_of (fun K hK => ?_)
        unfold wpOp
        simp only [e4]
        go_simp
        exact hK _ _ ⟨putT v1 7 undef, (by simp [putT, e4]), hS.step (Lz.mono FL) hL hi rfl (by decide) (Below.refl _ _) (Lz.toTr F7)⟩
      · have hns := hS.open hL hi rfl
        have hB := hS.a hns
        have e4 := Lz.ofIs (hS.f hns 4 rfl (ready_dep hi 4 (by kernel_rfl))) F4
        refine wpOpT_of (fun K hK => ?_)
        unfold wpOp
        simp only [e4]
        go_simp
        exact hK _ _ ⟨putT v1 8 undef, (by simp [putT, e4]), hS.step (Lz.mono FL) hL hi rfl (by decide) (Below.refl _ _) (Lz.toTr F8)⟩
      · have hns := hS.open hL hi rfl
        have hB := hS.a hns
        have e4 := Lz.ofIs (hS.f hns 4 rfl (ready_dep hi 4 (by kernel_rfl))) F4
        refine wpOpT_of (fun K hK => ?_)
        unfold wpOp
        simp only [e4]
        go_simp
        refine Or.inl ?_
        exact hK _ _ ⟨putT v1 9 (.bool true), (by simp [putT, e4]), hS.step (Lz.mono FL) hL hi rfl (by decide) (Below.refl _ _) (Lz.toIs F9)⟩
      · have hns := hS.open hL hi rfl
        have hB := hS.a hns
        have e9 := Lz.ofIs (hS.f hns 9 rfl (ready_dep hi 9 (by kernel_rfl))) F9
        refine wpOpT_of (fun K hK => ?_)
        unfold wpOp
        simp only [e9]
        go_simp
        refine Or.inl ?_
        exact hK _ _ ⟨putT v1 10 (.bool true), (by simp [putT, e9]), hS.step (Lz.mono FL) hL hi rfl (by decide) (Below.refl _ _) (Lz.toIs F10)⟩
      · have hns := hS.open hL hi rfl
        have hB := hS.a hns
        have e10 := Lz.ofIs (hS.f hns 10 rfl (ready_dep hi 10 (by kernel_rfl))) F10
        refine wpOpT_of (fun K hK => ?_)
        unfold wpOp
        simp only [e10]
        go_simp
        exact hK _ _ ⟨putT v1 11 undef, (by simp [putT, e10]), hS.step (Lz.mono FL) hL hi rfl (by decide) (Below.refl _ _) (Lz.toTr F11)⟩
      · have hns := hS.open hL hi rfl
        have hB := hS.a hns
        have e10 := Lz.ofIs (hS.f hns 10 rfl (ready_dep hi 10 (by kernel_rfl))) F10
        refine wpOpT_of (fun K hK => ?_)
        unfold wpOp
        simp only [e10]
        go_simp
        exact hK _ _ ⟨putT v1 12 undef, (by simp [putT, e10]), hS.step (Lz.mono FL) hL hi rfl (by decide) (Below.refl _ _) (Lz.toTr F12)⟩
      · have hns := hS.open hL hi rfl
        have hB := hS.a hns
        have e10 := Lz.ofIs (hS.f hns 10 rfl (ready_dep hi 10 (by kernel_rfl))) F10
        refine wpOpT_of (fun K hK => ?_)
        unfold wpOp
        simp only [e10]
        go_simp
        exact hK _ _ ⟨putT v1 13 undef, (by simp [putT, e10]), hS.step (Lz.mono FL) hL hi rfl (by decide) (Below.refl _ _) (Lz.toTr F13)⟩
      · have hns := hS.open hL hi rfl
        have hB := hS.a hns
        have e10 := Lz.ofIs (hS.f hns 10 rfl (ready_dep hi 10 (by kernel_rfl))) F10
        refine wpOpT_of (fun K hK => ?_)
        unfold wpOp
        simp only [e10]
        go_simp
        exact hK _ _ ⟨putT v1 14 undef, (by simp [putT, e10]), hS.step (Lz.mono FL) hL hi rfl (by decide) (Below.refl _ _) (Lz.toTr F14)⟩
      · have hns := hS.open hL hi rfl
        have hB := hS.a hns
        have e10 := Lz.ofIs (hS.f hns 10 rfl (ready_dep hi 10 (by kernel_rfl))) F10
        refine wpOpT_of (fun K hK => ?_)
        unfold wpOp
        simp only [e10]
        go_simp
        exact hK _ _ ⟨putT v1 15 undef, (by simp [putT, e10]), hS.step (Lz.mono FL) hL hi rfl (by decide) (Below.refl _ _) (Lz.toTr F15)⟩
      · have hns := hS.open hL hi rfl
        have hB := hS.a hns
        have e10 := Lz.ofIs (hS.f hns 10 rfl (ready_dep hi 10 (by kernel_rfl))) F10
        refine wpOpT_of (fun K hK => ?_)
        unfold wpOp
        simp only [e10]
        go_simp
        exact hK _ _ ⟨putT v1 16 undef, (by simp [putT, e10]), hS.step (Lz.mono FL) hL hi rfl (by decide) (Below.refl _ _) (Lz.toTr F16)⟩
      · have hns := hS.open hL hi rfl
        have hB := hS.a hns
        have e10 := Lz.ofIs (hS.f hns 10 rfl (ready_dep hi 10 (by kernel_rfl))) F10
        refine wpOpT_of (fun K hK => ?_)
        unfold wpOp
        simp only [e10]
        go_simp
        exact hK _ _ ⟨putT v1 17 undef, (by simp [putT, e10]), hS.step (Lz.mono FL) hL hi rfl (by decide) (Below.refl _ _) (Lz.toTr F17)⟩
      · have hns := hS.open hL hi rfl
        have hB := hS.a hns
        have e10 := Lz.ofIs (hS.f hns 10 rfl (ready_dep hi 10 (by kernel_rfl))) F10
        refine wpOpT_of (fun K hK => ?_)
        unfold wpOp
        simp only [e10]
        go_simp
        exact hK _ _ ⟨putT v1 18 undef, (by simp [putT, e10]), hS.step (Lz.mono FL) hL hi rfl (by decide) (Below.refl _ _) (Lz.toTr F18)⟩
      · have hns := hS.open hL hi rfl
        have hB := hS.a hns
        have e10 := Lz.ofIs (hS.f hns 10 rfl (ready_dep hi 10 (by kernel_rfl))) F10
        refine wpOpT_of (fun K hK => ?_)
        unfold wpOp
        simp only [e10]
        go_simp
        refine Or.inl ?_
        exact hK _ _ ⟨putT v1 19 (.bool true), (by simp [putT, e10]), hS.step (Lz.mono FL) hL hi rfl (by decide) (Below.refl _ _) (Lz.toIs F19)⟩
      · have hns := hS.open hL hi rfl
        have hB := hS.a hns
        have e19 := Lz.ofIs (hS.f hns 19 rfl (ready_dep hi 19 (by kernel_rfl))) F19
        refine wpOpT_of (fun K hK => ?_)
        unfold wpOp
        simp only [e19]
        go_simp
        refine Or.inl ?_
        exact hK _ _ ⟨putT v1 20 (.bool true), (by simp [putT, e19]), hS.step (Lz.mono FL) hL hi rfl (by decide) (Below.refl _ _) (Lz.toIs F20)⟩
      · have hns := hS.open hL hi rfl
        have hB := hS.a hns
        have e20 := Lz.ofIs (hS.f hns 20 rfl (ready_dep hi 20 (by kernel_rfl))) F20
        refine wpOpT_of (fun K hK => ?_)
        unfold wpOp
        simp only [e20]
        go_simp
        exact hK _ _ ⟨putT v1 21 undef, (by simp [putT, e20]), hS.step (Lz.mono FL) hL hi rfl (by decide) (Below.refl _ _) (Lz.toTr F21)⟩
      · have hns := hS.open hL hi rfl
        have hB := hS.a hns
        have e20 := Lz.ofIs (hS.f hns 20 rfl (ready_dep hi 20 (by kernel_rfl))) F20
        refine wpOpT_of (fun K hK => ?_)
        unfold wpOp
        simp only [e20]
        go_simp
        exact hK _ _ ⟨putT v1 22 undef, (by simp [putT, e20]), hS.step (Lz.mono FL) hL hi rfl (by decide) (Below.refl _ _) (Lz.toTr F22)⟩
      · have hns := hS.open hL hi rfl
        have hB := hS.a hns
        have e20 := Lz.ofIs (hS.f hns 20 rfl (ready_dep hi 20 (by kernel_rfl))) F20
        refine wpOpT_of (fun K hK => ?_)
        unfold wpOp
        simp only [e20]
        go_simp
        exact hK _ _ ⟨putT v1 23 undef, (by simp [putT, e20]), hS.step (Lz.mono FL) hL hi rfl (by decide) (Below.refl _ _) (Lz.toTr F23)⟩
      · have hns := hS.open hL hi rfl
        have hB := hS.a hns
        have e20 := Lz.ofIs (hS.f hns 20 rfl (ready_dep hi 20 (by kernel_rfl))) F20
        refine wpOpT_of (fun K hK => ?_)
        unfold wpOp
        simp only [e20]
        go_simp
        exact hK _ _ ⟨putT v1 24 undef, (by simp [putT, e20]), hS.step (Lz.mono FL) hL hi rfl (by decide) (Below.refl _ _) (Lz.toTr F24)⟩
      · have hns := hS.open hL hi rfl
        have hB := hS.a hns
        have e20 := Lz.ofIs (hS.f hns 20 rfl (ready_dep hi 20 (by kernel_rfl))) F20
        refine wpOpT_of (fun K hK => ?_)
        unfold wpOp
        simp only [e20]
        go_simp
        exact hK _ _ ⟨putT v1 25 undef, (by simp [putT, e20]), hS.step (Lz.mono FL) hL hi rfl (by decide) (Below.refl _ _) (Lz.toTr F25)⟩
      · have hns := hS.open hL hi rfl
        have hB := hS.a hns
        have e20 := Lz.ofIs (hS.f hns 20 rfl (ready_dep hi 20 (by kernel_rfl))) F20
        refine wpOpT_of (fun K hK => ?_)
        unfold wpOp
        simp only [e20]
        go_simp
        exact hK _ _ ⟨putT v1 26 undef, (by simp [putT, e20]), hS.step (Lz.mono FL) hL hi rfl (by decide) (Below.refl _ _) (Lz.toTr F26)⟩
      · have hns := hS.open hL hi rfl
        have hB := hS.a hns
        have e20 := Lz.ofIs (hS.f hns 20 rfl (ready_dep hi 20 (by kernel_rfl))) F20
        refine wpOpT_of (fun K hK => ?_)
        unfold wpOp
        simp only [e20]
        go_simp
        exact hK _ _ ⟨putT v1 27 undef, (by simp [putT, e20]), hS.step (Lz.mono FL) hL hi rfl (by decide) (Below.refl _ _) (Lz.toTr F27)⟩
      · have hns := hS.open hL hi rfl
        have hB := hS.a hns
        have e20 := Lz.ofIs (hS.f hns 20 rfl (ready_dep hi 20 (by kernel_rfl))) F20
        refine wpOpT_of (fun K hK => ?_)
        unfold wpOp
        simp only [e20]
        go_simp
        exact hK _ _ ⟨putT v1 28 undef, (by simp [putT, e20]), hS.step (Lz.mono FL) hL hi rfl (by decide) (Below.refl _ _) (Lz.toTr F28)⟩
      · have hns := hS.open hL hi rfl
        have hB := hS.a hns
        have e20 := Lz.ofIs (hS.f hns 20 rfl (ready_dep hi 20 (by kernel_rfl))) F20
        refine wpOpT_of (fun K hK => ?_)
        unfold wpOp
        simp only [e20]
        go_simp
        refine Or.inl ?_
        exact hK _ _ ⟨putT v1 29 (.bool true), (by simp [putT, e20]), hS.step (Lz.mono FL) hL hi rfl (by decide) (Below.refl _ _) (Lz.toIs F29)⟩
      · have hns := hS.open hL hi rfl
        have hB := hS.a hns
        have e29 := Lz.ofIs (hS.f hns 29 rfl (ready_dep hi 29 (by kernel_rfl))) F29
        refine wpOpT_of (fun K hK => ?_)
        unfold wpOp
        simp only [e29]
        go_simp
        refine Or.inl ?_
        exact hK _ _ ⟨putT v1 30 (.bool true), (by simp [putT, e29]), hS.step (Lz.mono FL) hL hi rfl (by decide) (Below.refl _ _) (Lz.toIs F30)⟩
      · have hns := hS.open hL hi rfl
        have hB := hS.a hns
        have e30 := Lz.ofIs (hS.f hns 30 rfl (ready_dep hi 30 (by kernel_rfl))) F30
        refine wpOpT_of (fun K hK => ?_)
        unfold wpOp
        simp only [e30]
        go_simp
        exact hK _ _ ⟨putT v1 31 undef, (by simp [putT, e30]), hS.step (Lz.mono FL) hL hi rfl (by decide) (Below.refl _ _) (Lz.toTr F31)⟩
      · have hns := hS.open hL hi rfl
        have hB := hS.a hns
        have e30 := Lz.ofIs (hS.f hns 30 rfl (ready_dep hi 30 (by kernel_rfl))) F30
        refine wpOpT_of (fun K hK => ?_)
        unfold wpOp
        simp only [e30]
        go_simp
        exact hK _ _ ⟨putT v1 32 undef, (by simp [putT, e30]), hS.step (Lz.mono FL) hL hi rfl (by decide) (Below.refl _ _) (Lz.toTr F32)⟩
      · have hns := hS.open hL hi rfl
        have hB := hS.a hns
        have e30 := Lz.ofIs (hS.f hns 30 rfl (ready_dep hi 30 (by kernel_rfl))) F30
        refine wpOpT_of (fun K hK => ?_)
        unfold wpOp
        simp only [e30]
        go_simp
        exact hK _ _ ⟨putT v1 33 undef, (by simp [putT, e30]), hS.step (Lz.mono FL) hL hi rfl (by decide) (Below.refl _ _) (Lz.toTr F33)⟩
      · have hns := hS.open hL hi rfl
        have hB := hS.a hns
        have e30 := Lz.ofIs (hS.f hns 30 rfl (ready_dep hi 30 (by kernel_rfl))) F30
        refine wpOpT_of (fun K hK => ?_)
        unfold wpOp
        simp only [e30]
        go_simp
        exact hK _ _ ⟨putT v1 34 undef, (by simp [putT, e30]), hS.step (Lz.mono FL) hL hi rfl (by decide) (Below.refl _ _) (Lz.toTr F34)⟩
      · have hns := hS.open hL hi rfl
        have hB := hS.a hns
        have e30 := Lz.ofIs (hS.f hns 30 rfl (ready_dep hi 30 (by kernel_rfl))) F30
        refine wpOpT_of (fun K hK => ?_)
        unfold wpOp
        simp only [e30]
        go_simp
        refine Or.inl ?_
        exact hK _ _ ⟨putT v1 35 (.bool true), (by simp [putT, e30]), hS.step (Lz.mono FL) hL hi rfl (by decide) (Below.refl _ _) (Lz.toIs F35)⟩
    · intro L v1 w1a hL hS hr
      have on := all_done hL hr (by kernel_rfl)
      have hns : ¬ On L 1036 := onT_over (by rw [hL]; exact Nat.le_of_ble_eq_true (by kernel_rfl))
      have hB := hS.a hns
      have e35 := Lz.ofIs (hS.f hns 35 rfl (on 35 (by decide))) F35
      try dsimp only
      rw [e35]
      clear hS on hr hns
      have hb3 := hb0.trans (hB.mono hb0.size)
      go_wp2
      go_ret
      exact ⟨rfl, hb3⟩
  · have i0 : ¬ (256 : Int) < (xs.length : Int) := by omega
    by_cases k1 : 256 < ys.length
    · obtain rfl : rt = false := HR.1 (Or.inr (Or.inl k1))
      have i1 : (256 : Int) < (ys.length : Int) := by omega
      clear k1 HR cg co cy c1 hcg hcy gl
      obtain ⟨FL, hFL⟩ : ∃ f : Nat → Lz, f = (fun j => match j with | 0 => .is (.pointer (some ⟨w.heap.size, 1, none⟩)) | 1 => .is (.slice ao xs.length cap) | 2 => .is (.int .i64 xs.length) | 3 => .is (.bool false) | 4 => .is (.bool false) | 5 => .is (.pointer (some ⟨w.heap.size, 2, none⟩)) | 6 => .is (.slice bo ys.length bcap) | 7 => .is (.int .i64 ys.length) | 8 => .is (.bool true) | 9 => .is (.bool true) | 10 => .is (.bool true) | 11 => .tr | 12 => .tr | 13 => .tr | 14 => .tr | 15 => .tr | 16 => .tr | 17 => .tr | 18 => .tr | 19 => .is (.bool true) | 20 => .is (.bool true) | 21 => .tr | 22 => .tr | 23 => .tr | 24 => .tr | 25 => .tr | 26 => .tr | 27 => .tr | 28 => .tr | 29 => .is (.bool true) | 30 => .is (.bool true) | 31 => .tr | 32 => .tr | 33 => .tr | 34 => .tr | 35 => .is (.bool true) | _ => .tr) := ⟨_, rfl⟩
      have F0 := congrFun hFL 0
      have F1 := congrFun hFL 1
      have F2 := congrFun hFL 2
      have F3 := congrFun hFL 3
      have F4 := congrFun hFL 4
      have F5 := congrFun hFL 5
      have F6 := congrFun hFL 6
      have F7 := congrFun hFL 7
      have F8 := congrFun hFL 8
      have F9 := congrFun hFL 9
      have F10 := congrFun hFL 10
      have F11 := congrFun hFL 11
      have F12 := congrFun hFL 12
      have F13 := congrFun hFL 13
      have F14 := congrFun hFL 14
      have F15 := congrFun hFL 15
      have F16 := congrFun hFL 16
      have F17 := congrFun hFL 17
      have F18 := congrFun hFL 18
      have F19 := congrFun hFL 19
      have F20 := congrFun hFL 20
      have F21 := congrFun hFL 21
      have F22 := congrFun hFL 22
      have F23 := congrFun hFL 23
      have F24 := congrFun hFL 24
      have F25 := congrFun hFL 25
      have F26 := congrFun hFL 26
      have F27 := congrFun hFL 27
      have F28 := congrFun hFL 28
      have F29 := congrFun hFL 29
      have F30 := congrFun hFL 30
      have F31 := congrFun hFL 31
      have F32 := congrFun hFL 32
      have F33 := congrFun hFL 33
      have F34 := congrFun hFL 34
      have F35 := congrFun hFL 35
      simp only at F0 F1 F2 F3 F4 F5 F6 F7 F8 F9 F10 F11 F12 F13 F14 F15 F16 F17 F18 F19 F20 F21 F22 F23 F24 F25 F26 F27 F28 F29 F30 F31 F32 F33 F34 F35
      clear hFL
      refine region_rgT (by kernel_rfl) (fun v1 => ⟨#[Value.agg #[Value.bool neg, Value.slice ao xs.length cap, Value.slice bo ys.length bcap], Value.pointer (some { block := w.heap.size, off := 0 }), Value.bool false, v1 0, v1 1, v1 2, v1 3, v1 4, v1 5, v1 6, v1 7, v1 8, v1 9, v1 10, v1 11, v1 12, v1 13, v1 14, v1 15, v1 16, v1 17, v1 18, v1 19, v1 20, v1 21, v1 22, v1 23, v1 24, v1 25, v1 26, v1 27, v1 28, v1 29, v1 30, v1 31, v1 32, v1 33, v1 34, v1 35, undef, undef, undef, undef, undef, undef, undef, undef, undef, undef, undef, undef, undef, undef, undef, undef, undef, undef, undef, undef, undef, undef], []⟩) 1036 (fun j => true) (fun j w0 x => (FL j).holds w0 x) (fun j x => match j with  | _ => True) (fun _ => True) (fun j => match j with  | _ => undef) rfl ?_ ?_
      · intro L v1 w1a i hL hS hi
        obtain ⟨h1, h2, h3⟩ := mem_ready hi
        have h1 : i < 36 := h1
        try dsimp only
        have hcs : i = 0 ∨ i = 1 ∨ i = 2 ∨ i = 3 ∨ i = 4 ∨ i = 5 ∨ i = 6 ∨ i = 7 ∨ i = 8 ∨ i = 9 ∨ i = 10 ∨ i = 11 ∨ i = 12 ∨ i = 13 ∨ i = 14 ∨ i = 15 ∨ i = 16 ∨ i = 17 ∨ i = 18 ∨ i = 19 ∨ i = 20 ∨ i = 21 ∨ i = 22 ∨ i = 23 ∨ i = 24 ∨ i = 25 ∨ i = 26 ∨ i = 27 ∨ i = 28 ∨ i = 29 ∨ i = 30 ∨ i = 31 ∨ i = 32 ∨ i = 33 ∨ i = 34 ∨ i = 35 := by omega
        clear h1 h2 h3
        rcases hcs with rfl | rfl | rfl | rfl | rfl | rfl | rfl | rfl | rfl | rfl | rfl | rfl | rfl | rfl | rfl | rfl | rfl | rfl | rfl | rfl | rfl | rfl | rfl | rfl | rfl | rfl | rfl | rfl | rfl | rfl | rfl | rfl | rfl | rfl | rfl | rfl
        · have hns := hS.open hL hi rfl
          have hB := hS.a hns
          refine wpOpT_of (fun K hK => ?_)
          unfold wpOp
          go_simp
          refine Or.inl ?_
          exact hK _ _ ⟨putT v1 0 (.pointer (some ⟨w.heap.size, 1, none⟩)), (by simp [putT]), hS.step (Lz.mono FL) hL hi rfl (by decide) (Below.refl _ _) (Lz.toIs F0)⟩
        · have hns := hS.open hL hi rfl
          have hB := hS.a hns
          have e0 := Lz.ofIs (hS.f hns 0 rfl (ready_dep hi 0 (by kernel_rfl))) F0
          have r1 : w1a.cell? ⟨w.heap.size, 1, none⟩ = some _ := (hB.cell (p := ⟨w.heap.size, 1, none⟩) xlt).trans x1
          refine wpOpT_of (fun K hK => ?_)
          unfold wpOp
          simp only [e0]
          go_simp
          refine Or.inl ?_
          exact hK _ _ ⟨putT v1 1 (.slice ao xs.length cap), (by simp [putT, e0]), hS.step (Lz.mono FL) hL hi rfl (by decide) (Below.refl _ _) (Lz.toIs F1)⟩
        · have hns := hS.open hL hi rfl
          have hB := hS.a hns
          have e1 := Lz.ofIs (hS.f hns 1 rfl (ready_dep hi 1 (by kernel_rfl))) F1
          refine wpOpT_of (fun K hK => ?_)
          unfold wpOp
          simp only [e1]
          go_simp
          refine Or.inl ?_
          exact hK _ _ ⟨putT v1 2 (.int .i64 xs.length), (by simp [putT, e1]), hS.step (Lz.mono FL) hL hi rfl (by decide) (Below.refl _ _) (Lz.toIs F2)⟩
        · have hns := hS.open hL hi rfl
          have hB := hS.a hns
          have e2 := Lz.ofIs (hS.f hns 2 rfl (ready_dep hi 2 (by kernel_rfl))) F2
          refine wpOpT_of (fun K hK => ?_)
          unfold wpOp
          simp only [e2]
          go_simp
          refine Or.inl ?_
          exact hK _ _ ⟨putT v1 3 (.bool false), (by simp [putT, e2]), hS.step (Lz.mono FL) hL hi rfl (by decide) (Below.refl _ _) (Lz.toIs F3)⟩
        · have hns := hS.open hL hi rfl
          have hB := hS.a hns
          have e3 := Lz.ofIs (hS.f hns 3 rfl (ready_dep hi 3 (by kernel_rfl))) F3
          refine wpOpT_of (fun K hK => ?_)
          unfold wpOp
          simp only [e3]
          go_simp
          refine Or.inl ?_
          exact hK _ _ ⟨putT v1 4 (.bool false), (by simp [putT, e3]), hS.step (Lz.mono FL) hL hi rfl (by decide) (Below.refl _ _) (Lz.toIs F4)⟩
        · have hns := hS.open hL hi rfl
          have hB := hS.a hns
          have e4 := Lz.ofIs (hS.f hns 4 rfl (ready_dep hi 4 (by kernel_rfl))) F4
          refine wpOpT_of (fun K hK => ?_)
          unfold wpOp
          simp only [e4]
          go_simp
          refine Or.inl ?_
          exact hK _ _ ⟨putT v1 5 (.pointer (some ⟨w.heap.size, 2, none⟩)), (by simp [putT, e4]), hS.step (Lz.mono FL) hL hi rfl (by decide) (Below.refl _ _) (Lz.toIs F5)⟩
        · have hns := hS.open hL hi rfl
          have hB := hS.a hns
          have e4 := Lz.ofIs (hS.f hns 4 rfl (ready_dep hi 4 (by kernel_rfl))) F4
          have e5 := Lz.ofIs (hS.f hns 5 rfl (ready_dep hi 5 (by kernel_rfl))) F5
          have r2 : w1a.cell? ⟨w.heap.size, 2, none⟩ = some _ := (hB.cell (p := ⟨w.heap.size, 2, none⟩) xlt).trans x2
          refine wpOpT_of (fun K hK => ?_)
          unfold wpOp
          simp only [e4, e5]
          go_simp
          refine Or.inl ?_
          exact hK _ _ ⟨putT v1 6 (.slice bo ys.length bcap), (by simp [putT, e4, e5]), hS.step (Lz.mono FL) hL hi rfl (by decide) (Below.refl _ _) (Lz.toIs F6)⟩
        · have hns := hS.open hL hi rfl
          have hB := hS.a hns
          have e4 := Lz.ofIs (hS.f hns 4 rfl (ready_dep hi 4 (by kernel_rfl))) F4
          have e6 := Lz.ofIs (hS.f hns 6 rfl (ready_dep hi 6 (by kernel_rfl))) F6
          refine wpOpT_of (fun K hK => ?_)
          unfold wpOp
          simp only [e4, e6]
          go_simp
          refine Or.inl ?_
          exact hK _ _ ⟨putT v1 7 (.int .i64 ys.length), (by simp [putT, e4, e6]), hS.step (Lz.mono FL) hL hi rfl (by decide) (Below.refl _ _) (Lz.toIs F7)⟩
        · have hns := hS.open hL hi rfl
          have hB := hS.a hns
          have e4 := Lz.ofIs (hS.f hns 4 rfl (ready_dep hi 4 (by kernel_rfl))) F4
          have e7 := Lz.ofIs (hS.f hns 7 rfl (ready_dep hi 7 (by kernel_rfl))) F7
          refine wpOpT_of (fun K hK => ?_)
          unfold wpOp
          simp only [e4, e7]
          go_simp
          refine Or.inl ?_
          exact hK _ _ ⟨putT v1 8 (.bool true), (by simp [putT, e4, e7]), hS.step (Lz.mono FL) hL hi rfl (by decide) (Below.refl _ _) (Lz.toIs F8)⟩
        · have hns := hS.open hL hi rfl
          have hB := hS.a hns
          have e4 := Lz.ofIs (hS.f hns 4 rfl (ready_dep hi 4 (by kernel_rfl))) F4
          have e8 := Lz.ofIs (hS.f hns 8 rfl (ready_dep hi 8 (by kernel_rfl))) F8
          refine wpOpT_of (fun K hK => ?_)
          unfold wpOp
          simp only [e4, e8]
          go_simp
          refine Or.inl ?_
          exact hK _ _ ⟨putT v1 9 (.bool true), (by simp [putT, e4, e8]), hS.step (Lz.mono FL) hL hi rfl (by decide) (Below.refl _ _) (Lz.toIs F9)⟩
        · have hns := hS.open hL hi rfl
          have hB := hS.a hns
          have e9 := Lz.ofIs (hS.f hns 9 rfl (ready_dep hi 9 (by kernel_rfl))) F9
          refine wpOpT_of (fun K hK => ?_)
          unfold wpOp
          simp only [e9]
          go_simp
          refine Or.inl ?_
          exact hK _ _ ⟨putT v1 10 (.bool true), (by simp [putT, e9]), hS.step (Lz.mono FL) hL hi rfl (by decide) (Below.refl _ _) (Lz.toIs F10)⟩
        · have hns := hS.open hL hi rfl
          have hB := hS.a hns
          have e10 := Lz.ofIs (hS.f hns 10 rfl (ready_dep hi 10 (by kernel_rfl))) F10
          refine wpOpT_of (fun K hK => ?_)
          unfold wpOp
          simp only [e10]
          go_simp
          exact hK _ _ ⟨putT v1 11 undef, (by simp [putT, e10]), hS.step (Lz.mono FL) hL hi rfl (by decide) (Below.refl _ _) (Lz.toTr F11)⟩
        · have hns := hS.open hL hi rfl
          have hB := hS.a hns
          have e10 := Lz.ofIs (hS.f hns 10 rfl (ready_dep hi 10 (by kernel_rfl))) F10
          refine wpOpT_of (fun K hK => ?_)
          unfold wpOp
          simp only [e10]
          go_simp
          exact hK _ _ ⟨putT v1 12 undef, (by simp [putT, e10]), hS.step (Lz.mono FL) hL hi rfl (by decide) (Below.refl _ _) (Lz.toTr F12)⟩
        · have hns := hS.open hL hi rfl
          have hB := hS.a hns
          have e10 := Lz.ofIs (hS.f hns 10 rfl (ready_dep hi 10 (by kernel_rfl))) F10
          refine wpOpT_of (fun K hK => ?_)
          unfold wpOp
          simp only [e10]
          go_simp
          exact hK _ _ ⟨putT v1 13 undef, (by simp [putT, e10]), hS.step (Lz.mono FL) hL hi rfl (by decide) (Below.refl _ _) (Lz.toTr F13)⟩
        · have hns := hS.open hL hi rfl
          have hB := hS.a hns
          have e10 := Lz.ofIs (hS.f hns 10 rfl (ready_dep hi 10 (by kernel_rfl))) F10
          refine wpOpT_of (fun K hK => ?_)
          unfold wpOp
          simp only [e10]
          go_simp
          exact hK _ _ ⟨putT v1 14 undef, (by simp [putT, e10]), hS.step (Lz.mono FL) hL hi rfl (by decide) (Below.refl _ _) (Lz.toTr F14)⟩
        · have hns := hS.open hL hi rfl
          have hB := hS.a hns
          have e10 := Lz.ofIs (hS.f hns 10 rfl (ready_dep hi 10 (by kernel_rfl))) F10
          refine wpOpT_of (fun K hK => ?_)
          unfold wpOp
          simp only [e10]
          go_simp
          exact hK _ _ ⟨putT v1 15 undef, (by simp [putT, e10]), hS.step (Lz.mono FL) hL hi rfl (by decide) (Below.refl _ _) (Lz.toTr F15)⟩
        · have hns := hS.open hL hi rfl
          have hB := hS.a hns
          have e10 := Lz.ofIs (hS.f hns 10 rfl (ready_dep hi 10 (by kernel_rfl))) F10
          refine wpOpT_of (fun K hK => ?_)
          unfold wpOp
          simp only [e10]
          go_simp
          exact hK _ _ ⟨putT v1 16 undef, (by simp [putT, e10]), hS.step (Lz.mono FL) hL hi rfl (by decide) (Below.refl _ _) (Lz.toTr F16)⟩
        · have hns := hS.open hL hi rfl
          have hB := hS.a hns
          have e10 := Lz.ofIs (hS.f hns 10 rfl (ready_dep hi 10 (by kernel_rfl))) F10
          refine wpOpT_of (fun K hK => ?_)
          unfold wpOp
          simp only [e10]
          go_simp
          exact hK _ _ ⟨putT v1 17 undef, (by simp [putT, e10]), hS.step (Lz.mono FL) hL hi rfl (by decide) (Below.refl _ _) (Lz.toTr F17)⟩
        · have hns := hS.open hL hi rfl
          have hB := hS.a hns
          have e10 := Lz.ofIs (hS.f hns 10 rfl (ready_dep hi 10 (by kernel_rfl))) F10
          refine wpOpT_of (fun K hK => ?_)
          unfold wpOp
          simp only [e10]
          go_simp
          exact hK _ _ ⟨putT v1 18 undef, (by simp [putT, e10]), hS.step (Lz.mono FL) hL hi rfl (by decide) (Below.refl _ _) (Lz.toTr F18)⟩
        · have hns := hS.open hL hi rfl
          have hB := hS.a hns
          have e10 := Lz.ofIs (hS.f hns 10 rfl (ready_dep hi 10 (by kernel_rfl))) F10
          refine wpOpT_of (fun K hK => ?_)
          unfold wpOp
          simp only [e10]
          go_simp
          refine Or.inl ?_
          exact hK _ _ ⟨putT v1 19 (.bool true), (by simp [putT, e10]), hS.step (Lz.mono FL) hL hi rfl (by decide) (Below.refl _ _) (Lz.toIs F19)⟩
        · have hns := hS.open hL hi rfl
          have hB := hS.a hns
          have e19 := Lz.ofIs (hS.f hns 19 rfl (ready_dep hi 19 (by kernel_rfl))) F19
          refine wpOpT_of (fun K hK => ?_)
          unfold wpOp
          simp only [e19]
          go_simp
          refine Or.inl ?_
          exact hK _ _ ⟨putT v1 20 (.bool true), (by simp [putT, e19]), hS.step (Lz.mono FL) hL hi rfl (by decide) (Below.refl _ _) (Lz.toIs F20)⟩
        · have hns := hS.open hL hi rfl
          have hB := hS.a hns
          have e20 := Lz.ofIs (hS.f hns 20 rfl (ready_dep hi 20 (by kernel_rfl))) F20
          refine wpOpT_of (fun K hK => ?_)
          unfold wpOp
          simp only [e20]
          go_simp
          exact hK _ _ ⟨putT v1 21 undef, (by simp [putT, e20]), hS.step (Lz.mono FL) hL hi rfl (by decide) (Below.refl _ _) (Lz.toTr F21)⟩
        · have hns := hS.open hL hi rfl
          have hB := hS.a hns
          have e20 := Lz.ofIs (hS.f hns 20 rfl (ready_dep hi 20 (by kernel_rfl))) F20
          refine wpOpT_of (fun K hK => ?_)
          unfold wpOp
          simp only [e20]
          go_simp
          exact hK _ _ ⟨putT v1 22 undef, (by simp [putT, e20]), hS.step (Lz.mono FL) hL hi rfl (by decide) (Below.refl _ _) (Lz.toTr F22)⟩
        · have hns := hS.open hL hi rfl
          have hB := hS.a hns
          have e20 := Lz.ofIs (hS.f hns 20 rfl (ready_dep hi 20 (by kernel_rfl))) F20
          refine wpOpT_of (fun K hK => ?_)
          unfold wpOp
          simp only [e20]
          go_simp
          exact hK _ _ ⟨putT v1 23 undef, (by simp [putT, e20]), hS.step (Lz.mono FL) hL hi rfl (by decide) (Below.refl _ _) (Lz.toTr F23)⟩
        · have hns := hS.open hL hi rfl
          have hB := hS.a hns
          have e20 := Lz.ofIs (hS.f hns 20 rfl (ready_dep hi 20 (by kernel_rfl))) F20
          refine wpOpT_of (fun K hK => ?_)
          unfold wpOp
          simp only [e20]
          go_simp
          exact hK _ _ ⟨putT v1 24 undef, (by simp [putT, e20]), hS.step (Lz.mono FL) hL hi rfl (by decide) (Below.refl _ _) (Lz.toTr F24)⟩
        · have hns := hS.open hL hi rfl
          have hB := hS.a hns
          have e20 := Lz.ofIs (hS.f hns 20 rfl (ready_dep hi 20 (by kernel_rfl))) F20
          refine wpOpT_of (fun K hK => ?_)
          unfold wpOp
          simp only [e20]
          go_simp
          exact hK _ _ ⟨putT v1 25 undef, (by simp [putT, e20]), hS.step (Lz.mono FL) hL hi rfl (by decide) (Below.refl _ _) (Lz.toTr F25)⟩
        · have hns := hS.open hL hi rfl
          have hB := hS.a hns
          have e20 := Lz.ofIs (hS.f hns 20 rfl (ready_dep hi 20 (by kernel_rfl))) F20
          refine wpOpT_of (fun K hK => ?_)
          unfold wpOp
          simp only [e20]
          go_simp
          exact hK _ _ ⟨putT v1 26 undef, (by simp [putT, e20]), hS.step (Lz.mono FL) hL hi rfl (by decide) (Below.refl _ _) (Lz.toTr F26)⟩
        · have hns := hS.open hL hi rfl
          have hB := hS.a hns
          have e20 := Lz.ofIs (hS.f hns 20 rfl (ready_dep hi 20 (by kernel_rfl))) F20
          refine wpOpT_of (fun K hK => ?_)
          unfold wpOp
          simp only [e20]
          go_simp
          exact hK _ _ ⟨putT v1 27 undef, (by simp [putT, e20]), hS.step (Lz.mono FL) hL hi rfl (by decide) (Below.refl _ _) (Lz.toTr F27)⟩
        · have hns := hS.open hL hi rfl
          have hB := hS.a hns
          have e20 := Lz.ofIs (hS.f hns 20 rfl (ready_dep hi 20 (by kernel_rfl))) F20
          refine wpOpT_of (fun K hK => ?_)
          unfold wpOp
          simp only [e20]
          go_simp
          exact hK _ _ ⟨putT v1 28 undef, (by simp [putT, e20]), hS.step (Lz.mono FL) hL hi rfl (by decide) (Below.refl _ _) (Lz.toTr F28)⟩
        · have hns := hS.open hL hi rfl
          have hB := hS.a hns
          have e20 := Lz.ofIs (hS.f hns 20 rfl (ready_dep hi 20 (by kernel_rfl))) F20
          refine wpOpT_of (fun K hK => ?_)
          unfold wpOp
          simp only [e20]
          go_simp
          refine Or.inl ?_
          exact hK _ _ ⟨putT v1 29 (.bool true), (by simp [putT, e20]), hS.step (Lz.mono FL) hL hi rfl (by decide) (Below.refl _ _) (Lz.toIs F29)⟩
        · have hns := hS.open hL hi rfl
          have hB := hS.a hns
          have e29 := Lz.ofIs (hS.f hns 29 rfl (ready_dep hi 29 (by kernel_rfl))) F29
          refine wpOpT_of (fun K hK => ?_)
          unfold wpOp
          simp only [e29]
          go_simp
          refine Or.inl ?_
          exact hK _ _ ⟨putT v1 30 (.bool true), (by simp [putT, e29]), hS.step (Lz.mono FL) hL hi rfl (by decide) (Below.refl _ _) (Lz.toIs F30)⟩
        · have hns := hS.open hL hi rfl
          have hB := hS.a hns
          have e30 := Lz.ofIs (hS.f hns 30 rfl (ready_dep hi 30 (by kernel_rfl))) F30
          refine wpOpT_of (fun K hK => ?_)
          unfold wpOp
          simp only [e30]
          go_simp
          exact hK _ _ ⟨putT v1 31 undef, (by simp [putT, e30]), hS.step (Lz.mono FL) hL hi rfl (by decide) (Below.refl _ _) (Lz.toTr F31)⟩
        · have hns := hS.open hL hi rfl
          have hB := hS.a hns
          have e30 := Lz.ofIs (hS.f hns 30 rfl (ready_dep hi 30 (by kernel_rfl))) F30
          refine wpOpT_of (fun K hK => ?_)
          unfold wpOp
          simp only [e30]
          go_simp
          exact hK _ _ ⟨putT v1 32 undef, (by simp [putT, e30]), hS.step (Lz.mono FL) hL hi rfl (by decide) (Below.refl _ _) (Lz.toTr F32)⟩
        · have hns := hS.open hL hi rfl
          have hB := hS.a hns
          have e30 := Lz.ofIs (hS.f hns 30 rfl (ready_dep hi 30 (by kernel_rfl))) F30
          refine wpOpT_of (fun K hK => ?_)
          unfold wpOp
          simp only [e30]
          go_simp
          exact hK _ _ ⟨putT v1 33 undef, (by simp [putT, e30]), hS.step (Lz.mono FL) hL hi rfl (by decide) (Below.refl _ _) (Lz.toTr F33)⟩
        · have hns := hS.open hL hi rfl
          have hB := hS.a hns
          have e30 := Lz.ofIs (hS.f hns 30 rfl (ready_dep hi 30 (by kernel_rfl))) F30
          refine wpOpT_of (fun K hK => ?_)
          unfold wpOp
          simp only [e30]
          go_simp
          exact hK _ _ ⟨putT v1 34 undef, (by simp [putT, e30]), hS.step (Lz.mono FL) hL hi rfl (by decide) (Below.refl _ _) (Lz.toTr F34)⟩
        · have hns := hS.open hL hi rfl
          have hB := hS.a hns
          have e30 := Lz.ofIs (hS.f hns 30 rfl (ready_dep hi 30 (by kernel_rfl))) F30
          refine wpOpT_of (fun K hK => ?_)
          unfold wpOp
          simp only [e30]
          go_simp
          refine Or.inl ?_
          exact hK _ _ ⟨putT v1 35 (.bool true), (by simp [putT, e30]), hS.step (Lz.mono FL) hL hi rfl (by decide) (Below.refl _ _) (Lz.toIs F35)⟩
      · intro L v1 w1a hL hS hr
        have on := all_done hL hr (by kernel_rfl)
        have hns : ¬ On L 1036 := onT_over (by rw [hL]; exact Nat.le_of_ble_eq_true (by kernel_rfl))
        have hB := hS.a hns
        have e35 := Lz.ofIs (hS.f hns 35 rfl (on 35 (by decide))) F35
        try dsimp only
        rw [e35]
        clear hS on hr hns
        have hb3 := hb0.trans (hB.mono hb0.size)
        go_wp2
        go_ret
        exact ⟨rfl, hb3⟩
    · have i1 : ¬ (256 : Int) < (ys.length : Int) := by omega
      by_cases k2 : (lo (vl xs)).length ≠ xs.length
      · obtain rfl : rt = false := HR.1 (Or.inr (Or.inr (Or.inl k2)))
        have i2 : (((lo (vl xs)).length : Int) != (xs.length : Int)) = true := by rw [bne_iff_ne]; omega
        clear k2 HR cg co cy c1 hcg hcy gl
        obtain ⟨FL, hFL⟩ : ∃ f : Nat → Lz, f = (fun j => match j with | 0 => .is (.pointer (some ⟨w.heap.size, 1, none⟩)) | 1 => .is (.slice ao xs.length cap) | 2 => .is (.int .i64 xs.length) | 3 => .is (.bool false) | 4 => .is (.bool false) | 5 => .is (.pointer (some ⟨w.heap.size, 2, none⟩)) | 6 => .is (.slice bo ys.length bcap) | 7 => .is (.int .i64 ys.length) | 8 => .is (.bool false) | 9 => .is (.bool false) | 10 => .is (.bool false) | 11 => .is (.pointer (some ⟨w.heap.size, 1, none⟩)) | 12 => .is (.slice ao xs.length cap) | 13 => .gn (fun a x => ∃ ao ac, x = .slice ao (lo (vl xs)).length ac ∧ NS a ao ac (lo (vl xs))) (fun a a' x h hb => h.elim fun ao h => h.elim fun ac h => ⟨ao, ac, h.1, h.2.below hb⟩) | 14 => .is (.int .i64 (lo (vl xs)).length) | 15 => .is (.pointer (some ⟨w.heap.size, 1, none⟩)) | 16 => .is (.slice ao xs.length cap) | 17 => .is (.int .i64 xs.length) | 18 => .is (.bool true) | 19 => .is (.bool true) | 20 => .is (.bool true) | 21 => .tr | 22 => .tr | 23 => .tr | 24 => .tr | 25 => .tr | 26 => .tr | 27 => .tr | 28 => .tr | 29 => .is (.bool true) | 30 => .is (.bool true) | 31 => .tr | 32 => .tr | 33 => .tr | 34 => .tr | 35 => .is (.bool true) | _ => .tr) := ⟨_, rfl⟩
        have F0 := congrFun hFL 0
        have F1 := congrFun hFL 1
        have F2 := congrFun hFL 2
        have F3 := congrFun hFL 3
        have F4 := congrFun hFL 4
        have F5 := congrFun hFL 5
        have F6 := congrFun hFL 6
        have F7 := congrFun hFL 7
        have F8 := congrFun hFL 8
        have F9 := congrFun hFL 9
        have F10 := congrFun hFL 10
        have F11 := congrFun hFL 11
        have F12 := congrFun hFL 12
        have F13 := congrFun hFL 13
        have F14 := congrFun hFL 14
        have F15 := congrFun hFL 15
        have F16 := congrFun hFL 16
        have F17 := congrFun hFL 17
        have F18 := congrFun hFL 18
        have F19 := congrFun hFL 19
        have F20 := congrFun hFL 20
        have F21 := congrFun hFL 21
        have F22 := congrFun hFL 22
        have F23 := congrFun hFL 23
        have F24 := congrFun hFL 24
        have F25 := congrFun hFL 25
        have F26 := congrFun hFL 26
        have F27 := congrFun hFL 27
        have F28 := congrFun hFL 28
        have F29 := congrFun hFL 29
        have F30 := congrFun hFL 30
        have F31 := congrFun hFL 31
        have F32 := congrFun hFL 32
        have F33 := congrFun hFL 33
        have F34 := congrFun hFL 34
        have F35 := congrFun hFL 35
        simp only at F0 F1 F2 F3 F4 F5 F6 F7 F8 F9 F10 F11 F12 F13 F14 F15 F16 F17 F18 F19 F20 F21 F22 F23 F24 F25 F26 F27 F28 F29 F30 F31 F32 F33 F34 F35
        clear hFL
        refine region_rgT (by kernel_rfl) (fun v1 => ⟨#[Value.agg #[Value.bool neg, Value.slice ao xs.length cap, Value.slice bo ys.length bcap], Value.pointer (some { block := w.heap.size, off := 0 }), Value.bool false, v1 0, v1 1, v1 2, v1 3, v1 4, v1 5, v1 6, v1 7, v1 8, v1 9, v1 10, v1 11, v1 12, v1 13, v1 14, v1 15, v1 16, v1 17, v1 18, v1 19, v1 20, v1 21, v1 22, v1 23, v1 24, v1 25, v1 26, v1 27, v1 28, v1 29, v1 30, v1 31, v1 32, v1 33, v1 34, v1 35, undef, undef, undef, undef, undef, undef, undef, undef, undef, undef, undef, undef, undef, undef, undef, undef, undef, undef, undef, undef, undef, undef], []⟩) 1036 (fun j => true) (fun j w0 x => (FL j).holds w0 x) (fun j x => match j with  | _ => True) (fun _ => True) (fun j => match j with  | _ => undef) rfl ?_ ?_
        · intro L v1 w1a i hL hS hi
          obtain ⟨h1, h2, h3⟩ := mem_ready hi
          have h1 : i < 36 := h1
          try dsimp only
          have hcs : i = 0 ∨ i = 1 ∨ i = 2 ∨ i = 3 ∨ i = 4 ∨ i = 5 ∨ i = 6 ∨ i = 7 ∨ i = 8 ∨ i = 9 ∨ i = 10 ∨ i = 11 ∨ i = 12 ∨ i = 13 ∨ i = 14 ∨ i = 15 ∨ i = 16 ∨ i = 17 ∨ i = 18 ∨ i = 19 ∨ i = 20 ∨ i = 21 ∨ i = 22 ∨ i = 23 ∨ i = 24 ∨ i = 25 ∨ i = 26 ∨ i = 27 ∨ i = 28 ∨ i = 29 ∨ i = 30 ∨ i = 31 ∨ i = 32 ∨ i = 33 ∨ i = 34 ∨ i = 35 := by omega
          clear h1 h2 h3
          rcases hcs with rfl | rfl | rfl | rfl | rfl | rfl | rfl | rfl | rfl | rfl | rfl | rfl | rfl | rfl | rfl | rfl | rfl | rfl | rfl | rfl | rfl | rfl | rfl | rfl | rfl | rfl | rfl | rfl | rfl | rfl | rfl | rfl | rfl | rfl | rfl | rfl
          · have hns := hS.open hL hi rfl
            have hB := hS.a hns
            refine wpOpT_of (fun K hK => ?_)
            unfold wpOp
            go_simp
            refine Or.inl ?_
            exact hK _ _ ⟨putT v1 0 (.pointer (some ⟨w.heap.size, 1, none⟩)), (by simp [putT]), hS.step (Lz.mono FL) hL hi rfl (by decide) (Below.refl _ _) (Lz.toIs F0)⟩
          · have hns := hS.open hL hi rfl
            have hB := hS.a hns
            have e0 := Lz.ofIs (hS.f hns 0 rfl (ready_dep hi 0 (by kernel_rfl))) F0
            have r1 : w1a.cell? ⟨w.heap.size, 1, none⟩ = some _ := (hB.cell (p := ⟨w.heap.size, 1, none⟩) xlt).trans x1
            refine wpOpT_of (fun K hK => ?_)
            unfold wpOp
            simp only [e0]
            go_simp
            refine Or.inl ?_
            exact hK _ _ ⟨putT v1 1 (.slice ao xs.length cap), (by simp [putT, e0]), hS.step (Lz.mono FL) hL hi rfl (by decide) (Below.refl _ _) (Lz.toIs F1)⟩
          · have hns := hS.open hL hi rfl
            have hB := hS.a hns
            have e1 := Lz.ofIs (hS.f hns 1 rfl (ready_dep hi 1 (by kernel_rfl))) F1
            refine wpOpT_of (fun K hK => ?_)
            unfold wpOp
            simp only [e1]
            go_simp
            refine Or.inl ?_
            exact hK _ _ ⟨putT v1 2 (.int .i64 xs.length), (by simp [putT, e1]), hS.step (Lz.mono FL) hL hi rfl (by decide) (Below.refl _ _) (Lz.toIs F2)⟩
          · have hns := hS.open hL hi rfl
            have hB := hS.a hns
            have e2 := Lz.ofIs (hS.f hns 2 rfl (ready_dep hi 2 (by kernel_rfl))) F2
            refine wpOpT_of (fun K hK => ?_)
            unfold wpOp
            simp only [e2]
            go_simp
            refine Or.inl ?_
            exact hK _ _ ⟨putT v1 3 (.bool false), (by simp [putT, e2]), hS.step (Lz.mono FL) hL hi rfl (by decide) (Below.refl _ _) (Lz.toIs F3)⟩
          · have hns := hS.open hL hi rfl
            have hB := hS.a hns
            have e3 := Lz.ofIs (hS.f hns 3 rfl (ready_dep hi 3 (by kernel_rfl))) F3
            refine wpOpT_of (fun K hK => ?_)
            unfold wpOp
            simp only [e3]
            go_simp
            refine Or.inl ?_
            exact hK _ _ ⟨putT v1 4 (.bool false), (by simp [putT, e3]), hS.step (Lz.mono FL) hL hi rfl (by decide) (Below.refl _ _) (Lz.toIs F4)⟩
          · have hns := hS.open hL hi rfl
            have hB := hS.a hns
            have e4 := Lz.ofIs (hS.f hns 4 rfl (ready_dep hi 4 (by kernel_rfl))) F4
            refine wpOpT_of (fun K hK => ?_)
            unfold wpOp
            simp only [e4]
            go_simp
            refine Or.inl ?_
            exact hK _ _ ⟨putT v1 5 (.pointer (some ⟨w.heap.size, 2, none⟩)), (by simp [putT, e4]), hS.step (Lz.mono FL) hL hi rfl (by decide) (Below.refl _ _) (Lz.toIs F5)⟩
          · have hns := hS.open hL hi rfl
            have hB := hS.a hns
            have e4 := Lz.ofIs (hS.f hns 4 rfl (ready_dep hi 4 (by kernel_rfl))) F4
            have e5 := Lz.ofIs (hS.f hns 5 rfl (ready_dep hi 5 (by kernel_rfl))) F5
            have r2 : w1a.cell? ⟨w.heap.size, 2, none⟩ = some _ := (hB.cell (p := ⟨w.heap.size, 2, none⟩) xlt).trans x2
            refine wpOpT_of (fun K hK => ?_)
            unfold wpOp
            simp only [e4, e5]
            go_simp
            refine Or.inl ?_
            exact hK _ _ ⟨putT v1 6 (.slice bo ys.length bcap), (by simp [putT, e4, e5]), hS.step (Lz.mono FL) hL hi rfl (by decide) (Below.refl _ _) (Lz.toIs F6)⟩
          · have hns := hS.open hL hi rfl
            have hB := hS.a hns
            have e4 := Lz.ofIs (hS.f hns 4 rfl (ready_dep hi 4 (by kernel_rfl))) F4
            have e6 := Lz.ofIs (hS.f hns 6 rfl (ready_dep hi 6 (by kernel_rfl))) F6
            refine wpOpT_of (fun K hK => ?_)
            unfold wpOp
            simp only [e4, e6]
            go_simp
            refine Or.inl ?_
            exact hK _ _ ⟨putT v1 7 (.int .i64 ys.length), (by simp [putT, e4, e6]), hS.step (Lz.mono FL) hL hi rfl (by decide) (Below.refl _ _) (Lz.toIs F7)⟩
          · have hns := hS.open hL hi rfl
            have hB := hS.a hns
            have e4 := Lz.ofIs (hS.f hns 4 rfl (ready_dep hi 4 (by kernel_rfl))) F4
            have e7 := Lz.ofIs (hS.f hns 7 rfl (ready_dep hi 7 (by kernel_rfl))) F7
            refine wpOpT_of (fun K hK => ?_)
            unfold wpOp
            simp only [e4, e7]
            go_simp
            refine Or.inl ?_
            exact hK _ _ ⟨putT v1 8 (.bool false), (by simp [putT, e4, e7]), hS.step (Lz.mono FL) hL hi rfl (by decide) (Below.refl _ _) (Lz.toIs F8)⟩
          · have hns := hS.open hL hi rfl
            have hB := hS.a hns
            have e4 := Lz.ofIs (hS.f hns 4 rfl (ready_dep hi 4 (by kernel_rfl))) F4
            have e8 := Lz.ofIs (hS.f hns 8 rfl (ready_dep hi 8 (by kernel_rfl))) F8
            refine wpOpT_of (fun K hK => ?_)
            unfold wpOp
            simp only [e4, e8]
            go_simp
            refine Or.inl ?_
            exact hK _ _ ⟨putT v1 9 (.bool false), (by simp [putT, e4, e8]), hS.step (Lz.mono FL) hL hi rfl (by decide) (Below.refl _ _) (Lz.toIs F9)⟩
          · have hns := hS.open hL hi rfl
            have hB := hS.a hns
            have e9 := Lz.ofIs (hS.f hns 9 rfl (ready_dep hi 9 (by kernel_rfl))) F9
            refine wpOpT_of (fun K hK => ?_)
            unfold wpOp
            simp only [e9]
            go_simp
            refine Or.inl ?_
            exact hK _ _ ⟨putT v1 10 (.bool false), (by simp [putT, e9]), hS.step (Lz.mono FL) hL hi rfl (by decide) (Below.refl _ _) (Lz.toIs F10)⟩
          · have hns := hS.open hL hi rfl
            have hB := hS.a hns
            have e10 := Lz.ofIs (hS.f hns 10 rfl (ready_dep hi 10 (by kernel_rfl))) F10
            refine wpOpT_of (fun K hK => ?_)
            unfold wpOp
            simp only [e10]
            go_simp
            refine Or.inl ?_
            exact hK _ _ ⟨putT v1 11 (.pointer (some ⟨w.heap.size, 1, none⟩)), (by simp [putT, e10]), hS.step (Lz.mono FL) hL hi rfl (by decide) (Below.refl _ _) (Lz.toIs F11)⟩
          · have hns := hS.open hL hi rfl
            have hB := hS.a hns
            have e10 := Lz.ofIs (hS.f hns 10 rfl (ready_dep hi 10 (by kernel_rfl))) F10
            have e11 := Lz.ofIs (hS.f hns 11 rfl (ready_dep hi 11 (by kernel_rfl))) F11
            have r1 : w1a.cell? ⟨w.heap.size, 1, none⟩ = some _ := (hB.cell (p := ⟨w.heap.size, 1, none⟩) xlt).trans x1
            refine wpOpT_of (fun K hK => ?_)
            unfold wpOp
            simp only [e10, e11]
            go_simp
            refine Or.inl ?_
            exact hK _ _ ⟨putT v1 12 (.slice ao xs.length cap), (by simp [putT, e10, e11]), hS.step (Lz.mono FL) hL hi rfl (by decide) (Below.refl _ _) (Lz.toIs F12)⟩
          · have hns := hS.open hL hi rfl
            have hB := hS.a hns
            have e10 := Lz.ofIs (hS.f hns 10 rfl (ready_dep hi 10 (by kernel_rfl))) F10
            have e12 := Lz.ofIs (hS.f hns 12 rfl (ready_dep hi 12 (by kernel_rfl))) F12
            refine wpOpT_of (fun K hK => ?_)
            unfold wpOp
            simp only [e10, e12]
            go_simp
            refine Or.inl ?_
            go_at_call 41
            refine (ct _ (A1.below hB)).mono ?_
            rintro e w1 ⟨ro, rc, rfl, kr, _, bc⟩
            exact hK _ _ ⟨putT v1 13 (.slice ro (lo (vl xs)).length rc), (by simp [putT, e10, e12]), hS.step (Lz.mono FL) hL hi rfl (by decide) (bc) (Lz.toGn F13 (⟨_, _, rfl, kr⟩))⟩
          · have hns := hS.open hL hi rfl
            have hB := hS.a hns
            have e10 := Lz.ofIs (hS.f hns 10 rfl (ready_dep hi 10 (by kernel_rfl))) F10
            obtain ⟨ao13, ac13, e13, u13⟩ := Lz.ofGn (hS.f hns 13 rfl (ready_dep hi 13 (by kernel_rfl))) F13
            refine wpOpT_of (fun K hK => ?_)
            unfold wpOp
            simp only [e10, e13]
            go_simp
            refine Or.inl ?_
            exact hK _ _ ⟨putT v1 14 (.int .i64 (lo (vl xs)).length), (by simp [putT, e10, e13]), hS.step (Lz.mono FL) hL hi rfl (by decide) (Below.refl _ _) (Lz.toIs F14)⟩
          · have hns := hS.open hL hi rfl
            have hB := hS.a hns
            have e10 := Lz.ofIs (hS.f hns 10 rfl (ready_dep hi 10 (by kernel_rfl))) F10
            refine wpOpT_of (fun K hK => ?_)
            unfold wpOp
            simp only [e10]
            go_simp
            refine Or.inl ?_
            exact hK _ _ ⟨putT v1 15 (.pointer (some ⟨w.heap.size, 1, none⟩)), (by simp [putT, e10]), hS.step (Lz.mono FL) hL hi rfl (by decide) (Below.refl _ _) (Lz.toIs F15)⟩
          · have hns := hS.open hL hi rfl
            have hB := hS.a hns
            have e10 := Lz.ofIs (hS.f hns 10 rfl (ready_dep hi 10 (by kernel_rfl))) F10
            have e15 := Lz.ofIs (hS.f hns 15 rfl (ready_dep hi 15 (by kernel_rfl))) F15
            have r1 : w1a.cell? ⟨w.heap.size, 1, none⟩ = some _ := (hB.cell (p := ⟨w.heap.size, 1, none⟩) xlt).trans x1
            refine wpOpT_of (fun K hK => ?_)
            unfold wpOp
            simp only [e10, e15]
            go_simp
            refine Or.inl ?_
            exact hK _ _ ⟨putT v1 16 (.slice ao xs.length cap), (by simp [putT, e10, e15]), hS.step (Lz.mono FL) hL hi rfl (by decide) (Below.refl _ _) (Lz.toIs F16)⟩
          · have hns := hS.open hL hi rfl
            have hB := hS.a hns
            have e10 := Lz.ofIs (hS.f hns 10 rfl (ready_dep hi 10 (by kernel_rfl))) F10
            have e16 := Lz.ofIs (hS.f hns 16 rfl (ready_dep hi 16 (by kernel_rfl))) F16
            refine wpOpT_of (fun K hK => ?_)
            unfold wpOp
            simp only [e10, e16]
            go_simp
            refine Or.inl ?_
            exact hK _ _ ⟨putT v1 17 (.int .i64 xs.length), (by simp [putT, e10, e16]), hS.step (Lz.mono FL) hL hi rfl (by decide) (Below.refl _ _) (Lz.toIs F17)⟩
          · have hns := hS.open hL hi rfl
            have hB := hS.a hns
            have e10 := Lz.ofIs (hS.f hns 10 rfl (ready_dep hi 10 (by kernel_rfl))) F10
            have e14 := Lz.ofIs (hS.f hns 14 rfl (ready_dep hi 14 (by kernel_rfl))) F14
            have e17 := Lz.ofIs (hS.f hns 17 rfl (ready_dep hi 17 (by kernel_rfl))) F17
            refine wpOpT_of (fun K hK => ?_)
            unfold wpOp
            simp only [e10, e14, e17]
            go_simp
            refine Or.inl ?_
            exact hK _ _ ⟨putT v1 18 (.bool true), (by simp [putT, e10, e14, e17]), hS.step (Lz.mono FL) hL hi rfl (by decide) (Below.refl _ _) (Lz.toIs F18)⟩
          · have hns := hS.open hL hi rfl
            have hB := hS.a hns
            have e10 := Lz.ofIs (hS.f hns 10 rfl (ready_dep hi 10 (by kernel_rfl))) F10
            have e18 := Lz.ofIs (hS.f hns 18 rfl (ready_dep hi 18 (by kernel_rfl))) F18
            refine wpOpT_of (fun K hK => ?_)
            unfold wpOp
            simp only [e10, e18]
            go_simp
            refine Or.inl ?_
            exact hK _ _ ⟨putT v1 19 (.bool true), (by simp [putT, e10, e18]), hS.step (Lz.mono FL) hL hi rfl (by decide) (Below.refl _ _) (Lz.toIs F19)⟩
          · have hns := hS.open hL hi rfl
            have hB := hS.a hns
            have e19 := Lz.ofIs (hS.f hns 19 rfl (ready_dep hi 19 (by kernel_rfl))) F19
            refine wpOpT_of (fun K hK => ?_)
            unfold wpOp
            simp only [e19]
            go_simp
            refine Or.inl ?_
            exact hK _ _ ⟨putT v1 20 (.bool true), (by simp [putT, e19]), hS.step (Lz.mono FL) hL hi rfl (by decide) (Below.refl _ _) (Lz.toIs F20)⟩
          · have hns := hS.open hL hi rfl
            have hB := hS.a hns
            have e20 := Lz.ofIs (hS.f hns 20 rfl (ready_dep hi 20 (by kernel_rfl))) F20
            refine wpOpT_of (fun K hK => ?_)
            unfold wpOp
            simp only [e20]
            go_simp
            exact hK _ _ ⟨putT v1 21 undef, (by simp [putT, e20]), hS.step (Lz.mono FL) hL hi rfl (by decide) (Below.refl _ _) (Lz.toTr F21)⟩
          · have hns := hS.open hL hi rfl
            have hB := hS.a hns
            have e20 := Lz.ofIs (hS.f hns 20 rfl (ready_dep hi 20 (by kernel_rfl))) F20
            refine wpOpT_of (fun K hK => ?_)
            unfold wpOp
            simp only [e20]
            go_simp
            exact hK _ _ ⟨putT v1 22 undef, (by simp [putT, e20]), hS.step (Lz.mono FL) hL hi rfl (by decide) (Below.refl _ _) (Lz.toTr F22)⟩
          · have hns := hS.open hL hi rfl
            have hB := hS.a hns
            have e20 := Lz.ofIs (hS.f hns 20 rfl (ready_dep hi 20 (by kernel_rfl))) F20
            refine wpOpT_of (fun K hK => ?_)
            unfold wpOp
            simp only [e20]
            go_simp
            exact hK _ _ ⟨putT v1 23 undef, (by simp [putT, e20]), hS.step (Lz.mono FL) hL hi rfl (by decide) (Below.refl _ _) (Lz.toTr F23)⟩
          · have hns := hS.open hL hi rfl
            have hB := hS.a hns
            have e20 := Lz.ofIs (hS.f hns 20 rfl (ready_dep hi 20 (by kernel_rfl))) F20
            refine wpOpT_of (fun K hK => ?_)
            unfold wpOp
            simp only [e20]
            go_simp
            exact hK _ _ ⟨putT v1 24 undef, (by simp [putT, e20]), hS.step (Lz.mono FL) hL hi rfl (by decide) (Below.refl _ _) (Lz.toTr F24)⟩
          · have hns := hS.open hL hi rfl
            have hB := hS.a hns
            have e20 := Lz.ofIs (hS.f hns 20 rfl (ready_dep hi 20 (by kernel_rfl))) F20
            refine wpOpT_of (fun K hK => ?_)
            unfold wpOp
            simp only [e20]
            go_simp
            exact hK _ _ ⟨putT v1 25 undef, (by simp [putT, e20]), hS.step (Lz.mono FL) hL hi rfl (by decide) (Below.refl _ _) (Lz.toTr F25)⟩
          · have hns := hS.open hL hi rfl
            have hB := hS.a hns
            have e20 := Lz.ofIs (hS.f hns 20 rfl (ready_dep hi 20 (by kernel_rfl))) F20
            refine wpOpT_of (fun K hK => ?_)
            unfold wpOp
            simp only [e20]
            go_simp
            exact hK _ _ ⟨putT v1 26 undef, (by simp [putT, e20]), hS.step (Lz.mono FL) hL hi rfl (by decide) (Below.refl _ _) (Lz.toTr F26)⟩
          · have hns := hS.open hL hi rfl
            have hB := hS.a hns
            have e20 := Lz.ofIs (hS.f hns 20 rfl (ready_dep hi 20 (by kernel_rfl))) F20
            refine wpOpT_of (fun K hK => ?_)
            unfold wpOp
            simp only [e20]
            go_simp
            exact hK _ _ ⟨putT v1 27 undef, (by simp [putT, e20]), hS.step (Lz.mono FL) hL hi rfl (by decide) (Below.refl _ _) (Lz.toTr F27)⟩
          · have hns := hS.open hL hi rfl
            have hB := hS.a hns
            have e20 := Lz.ofIs (hS.f hns 20 rfl (ready_dep hi 20 (by kernel_rfl))) F20
            refine wpOpT_of (fun K hK => ?_)
            unfold wpOp
            simp only [e20]
            go_simp
            exact hK _ _ ⟨putT v1 28 undef, (by simp [putT, e20]), hS.step (Lz.mono FL) hL hi rfl (by decide) (Below.refl _ _) (Lz.toTr F28)⟩
          · have hns := hS.open hL hi rfl
            have hB := hS.a hns
            have e20 := Lz.ofIs (hS.f hns 20 rfl (ready_dep hi 20 (by kernel_rfl))) F20
            refine wpOpT_of (fun K hK => ?_)
            unfold wpOp
            simp only [e20]
            go_simp
            refine Or.inl ?_
            exact hK _ _ ⟨putT v1 29 (.bool true), (by simp [putT, e20]), hS.step (Lz.mono FL) hL hi rfl (by decide) (Below.refl _ _) (Lz.toIs F29)⟩
          · have hns := hS.open hL hi rfl
            have hB := hS.a hns
            have e29 := Lz.ofIs (hS.f hns 29 rfl (ready_dep hi 29 (by kernel_rfl))) F29
            refine wpOpT_of (fun K hK => ?_)
            unfold wpOp
            simp only [e29]
            go_simp
            refine Or.inl ?_
            exact hK _ _ ⟨putT v1 30 (.bool true), (by simp [putT, e29]), hS.step (Lz.mono FL) hL hi rfl (by decide) (Below.refl _ _) (Lz.toIs F30)⟩
          · have hns := hS.open hL hi rfl
            have hB := hS.a hns
            have e30 := Lz.ofIs (hS.f hns 30 rfl (ready_dep hi 30 (by kernel_rfl))) F30
            refine wpOpT_of (fun K hK => ?_)
            unfold wpOp
            simp only [e30]
            go_simp
            exact hK _ _ ⟨putT v1 31 undef, (by simp [putT, e30]), hS.step (Lz.mono FL) hL hi rfl (by decide) (Below.refl _ _) (Lz.toTr F31)⟩
          · have hns := hS.open hL hi rfl
            have hB := hS.a hns
            have e30 := Lz.ofIs (hS.f hns 30 rfl (ready_dep hi 30 (by kernel_rfl))) F30
            refine wpOpT_of (fun K hK => ?_)
            unfold wpOp
            simp only [e30]
            go_simp
            exact hK _ _ ⟨putT v1 32 undef, (by simp [putT, e30]), hS.step (Lz.mono FL) hL hi rfl (by decide) (Below.refl _ _) (Lz.toTr F32)⟩
          · have hns := hS.open hL hi rfl
            have hB := hS.a hns
            have e30 := Lz.ofIs (hS.f hns 30 rfl (ready_dep hi 30 (by kernel_rfl))) F30
            refine wpOpT_of (fun K hK => ?_)
            unfold wpOp
            simp only [e30]
            go_simp
            exact hK _ _ ⟨putT v1 33 undef, (by simp [putT, e30]), hS.step (Lz.mono FL) hL hi rfl (by decide) (Below.refl _ _) (Lz.toTr F33)⟩
          · have hns := hS.open hL hi rfl
            have hB := hS.a hns
            have e30 := Lz.ofIs (hS.f hns 30 rfl (ready_dep hi 30 (by kernel_rfl))) F30
            refine wpOpT_of (fun K hK => ?_)
            unfold wpOp
            simp only [e30]
            go_simp
            exact hK _ _ ⟨putT v1 34 undef, (by simp [putT, e30]), hS.step (Lz.mono FL) hL hi rfl (by decide) (Below.refl _ _) (Lz.toTr F34)⟩
          · have hns := hS.open hL hi rfl
            have hB := hS.a hns
            have e30 := Lz.ofIs (hS.f hns 30 rfl (ready_dep hi 30 (by kernel_rfl))) F30
            refine wpOpT_of (fun K hK => ?_)
            unfold wpOp
            simp only [e30]
            go_simp
            refine Or.inl ?_
            exact hK _ _ ⟨putT v1 35 (.bool true), (by simp [putT, e30]), hS.step (Lz.mono FL) hL hi rfl (by decide) (Below.refl _ _) (Lz.toIs F35)⟩
        · intro L v1 w1a hL hS hr
          have on := all_done hL hr (by kernel_rfl)
          have hns : ¬ On L 1036 := onT_over (by rw [hL]; exact Nat.le_of_ble_eq_true (by kernel_rfl))
          have hB := hS.a hns
          have e35 := Lz.ofIs (hS.f hns 35 rfl (on 35 (by decide))) F35
          try dsimp only
          rw [e35]
          clear hS on hr hns
          have hb3 := hb0.trans (hB.mono hb0.size)
          go_wp2
          go_ret
          exact ⟨rfl, hb3⟩
      · have i2 : (((lo (vl xs)).length : Int) != (xs.length : Int)) = false := by rw [bne_eq_false_iff_eq]; omega
        by_cases k3 : (lo (vl ys)).length ≠ ys.length
        · obtain rfl : rt = false := HR.1 (Or.inr (Or.inr (Or.inr (Or.inl k3))))
          have i3 : (((lo (vl ys)).length : Int) != (ys.length : Int)) = true := by rw [bne_iff_ne]; omega
          clear k3 HR cg co cy c1 hcg hcy gl
          obtain ⟨FL, hFL⟩ : ∃ f : Nat → Lz, f = (fun j => match j with | 0 => .is (.pointer (some ⟨w.heap.size, 1, none⟩)) | 1 => .is (.slice ao xs.length cap) | 2 => .is (.int .i64 xs.length) | 3 => .is (.bool false) | 4 => .is (.bool false) | 5 => .is (.pointer (some ⟨w.heap.size, 2, none⟩)) | 6 => .is (.slice bo ys.length bcap) | 7 => .is (.int .i64 ys.length) | 8 => .is (.bool false) | 9 => .is (.bool false) | 10 => .is (.bool false) | 11 => .is (.pointer (some ⟨w.heap.size, 1, none⟩)) | 12 => .is (.slice ao xs.length cap) | 13 => .gn (fun a x => ∃ ao ac, x = .slice ao (lo (vl xs)).length ac ∧ NS a ao ac (lo (vl xs))) (fun a a' x h hb => h.elim fun ao h => h.elim fun ac h => ⟨ao, ac, h.1, h.2.below hb⟩) | 14 => .is (.int .i64 (lo (vl xs)).length) | 15 => .is (.pointer (some ⟨w.heap.size, 1, none⟩)) | 16 => .is (.slice ao xs.length cap) | 17 => .is (.int .i64 xs.length) | 18 => .is (.bool false) | 19 => .is (.bool false) | 20 => .is (.bool false) | 21 => .is (.pointer (some ⟨w.heap.size, 2, none⟩)) | 22 => .is (.slice bo ys.length bcap) | 23 => .gn (fun a x => ∃ ao ac, x = .slice ao (lo (vl ys)).length ac ∧ NS a ao ac (lo (vl ys))) (fun a a' x h hb => h.elim fun ao h => h.elim fun ac h => ⟨ao, ac, h.1, h.2.below hb⟩) | 24 => .is (.int .i64 (lo (vl ys)).length) | 25 => .is (.pointer (some ⟨w.heap.size, 2, none⟩)) | 26 => .is (.slice bo ys.length bcap) | 27 => .is (.int .i64 ys.length) | 28 => .is (.bool true) | 29 => .is (.bool true) | 30 => .is (.bool true) | 31 => .tr | 32 => .tr | 33 => .tr | 34 => .tr | 35 => .is (.bool true) | _ => .tr) := ⟨_, rfl⟩
          have F0 := congrFun hFL 0
          have F1 := congrFun hFL 1
          have F2 := congrFun hFL 2
          have F3 := congrFun hFL 3
          have F4 := congrFun hFL 4
          have F5 := congrFun hFL 5
          have F6 := congrFun hFL 6
          have F7 := congrFun hFL 7
          have F8 := congrFun hFL 8
          have F9 := congrFun hFL 9
          have F10 := congrFun hFL 10
          have F11 := congrFun hFL 11
          have F12 := congrFun hFL 12
          have F13 := congrFun hFL 13
          have F14 := congrFun hFL 14
          have F15 := congrFun hFL 15
          have F16 := congrFun hFL 16
          have F17 := congrFun hFL 17
          have F18 := congrFun hFL 18
          have F19 := congrFun hFL 19
          have F20 := congrFun hFL 20
          have F21 := congrFun hFL 21
          have F22 := congrFun hFL 22
          have F23 := congrFun hFL 23
          have F24 := congrFun hFL 24
          have F25 := congrFun hFL 25
          have F26 := congrFun hFL 26
          have F27 := congrFun hFL 27
          have F28 := congrFun hFL 28
          have F29 := congrFun hFL 29
          have F30 := congrFun hFL 30
          have F31 := congrFun hFL 31
          have F32 := congrFun hFL 32
          have F33 := congrFun hFL 33
          have F34 := congrFun hFL 34
          have F35 := congrFun hFL 35
          simp only at F0 F1 F2 F3 F4 F5 F6 F7 F8 F9 F10 F11 F12 F13 F14 F15 F16 F17 F18 F19 F20 F21 F22 F23 F24 F25 F26 F27 F28 F29 F30 F31 F32 F33 F34 F35
          clear hFL
          refine region_rgT (by kernel_rfl) (fun v1 => ⟨#[Value.agg #[Value.bool neg, Value.slice ao xs.length cap, Value.slice bo ys.length bcap], Value.pointer (some { block := w.heap.size, off := 0 }), Value.bool false, v1 0, v1 1, v1 2, v1 3, v1 4, v1 5, v1 6, v1 7, v1 8, v1 9, v1 10, v1 11, v1 12, v1 13, v1 14, v1 15, v1 16, v1 17, v1 18, v1 19, v1 20, v1 21, v1 22, v1 23, v1 24, v1 25, v1 26, v1 27, v1 28, v1 29, v1 30, v1 31, v1 32, v1 33, v1 34, v1 35, undef, undef, undef, undef, undef, undef, undef, undef, undef, undef, undef, undef, undef, undef, undef, undef, undef, undef, undef, undef, undef, undef], []⟩) 1036 (fun j => true) (fun j w0 x => (FL j).holds w0 x) (fun j x => match j with  | _ => True) (fun _ => True) (fun j => match j with  | _ => undef) rfl ?_ ?_
          · intro L v1 w1a i hL hS hi
            obtain ⟨h1, h2, h3⟩ := mem_ready hi
            have h1 : i < 36 := h1
            try dsimp only
            have hcs : i = 0 ∨ i = 1 ∨ i = 2 ∨ i = 3 ∨ i = 4 ∨ i = 5 ∨ i = 6 ∨ i = 7 ∨ i = 8 ∨ i = 9 ∨ i = 10 ∨ i = 11 ∨ i = 12 ∨ i = 13 ∨ i = 14 ∨ i = 15 ∨ i = 16 ∨ i = 17 ∨ i = 18 ∨ i = 19 ∨ i = 20 ∨ i = 21 ∨ i = 22 ∨ i = 23 ∨ i = 24 ∨ i = 25 ∨ i = 26 ∨ i = 27 ∨ i = 28 ∨ i = 29 ∨ i = 30 ∨ i = 31 ∨ i = 32 ∨ i = 33 ∨ i = 34 ∨ i = 35 := by omega
            clear h1 h2 h3
            rcases hcs with rfl | rfl | rfl | rfl | rfl | rfl | rfl | rfl | rfl | rfl | rfl | rfl | rfl | rfl | rfl | rfl | rfl | rfl | rfl | rfl | rfl | rfl | rfl | rfl | rfl | rfl | rfl | rfl | rfl | rfl | rfl | rfl | rfl | rfl | rfl | rfl
            · have hns := hS.open hL hi rfl
              have hB := hS.a hns
              refine wpOpT_of (fun K hK => ?_)
              unfold wpOp
              go_simp
              refine Or.inl ?_
              exact hK _ _ ⟨putT v1 0 (.pointer (some ⟨w.heap.size, 1, none⟩)), (by simp [putT]), hS.step (Lz.mono FL) hL hi rfl (by decide) (Below.refl _ _) (Lz.toIs F0)⟩
            · have hns := hS.open hL hi rfl
              have hB := hS.a hns
              have e0 := Lz.ofIs (hS.f hns 0 rfl (ready_dep hi 0 (by kernel_rfl))) F0
              have r1 : w1a.cell? ⟨w.heap.size, 1, none⟩ = some _ := (hB.cell (p := ⟨w.heap.size, 1, none⟩) xlt).trans x1
              refine wpOpT_of (fun K hK => ?_)
              unfold wpOp
              simp only [e0]
              go_simp
              refine Or.inl ?_
              exact hK _ _ ⟨putT v1 1 (.slice ao xs.length cap), (by simp [putT, e0]), hS.step (Lz.mono FL) hL hi rfl (by decide) (Below.refl _ _) (Lz.toIs F1)⟩
            · have hns := hS.open hL hi rfl
              have hB := hS.a hns
              have e1 := Lz.ofIs (hS.f hns 1 rfl (ready_dep hi 1 (by kernel_rfl))) F1
              refine wpOpT_of (fun K hK => ?_)
              unfold wpOp
              simp only [e1]
              go_simp
              refine Or.inl ?_
              exact hK _ _ ⟨putT v1 2 (.int .i64 xs.length), (by simp [putT, e1]), hS.step (Lz.mono FL) hL hi rfl (by decide) (Below.refl _ _) (Lz.toIs F2)⟩
            · have hns := hS.open hL hi rfl
              have hB := hS.a hns
              have e2 := Lz.ofIs (hS.f hns 2 rfl (ready_dep hi 2 (by kernel_rfl))) F2
              refine wpOpT_of (fun K hK => ?_)
              unfold wpOp
              simp only [e2]
              go_simp
              refine Or.inl ?_
              exact hK _ _ ⟨putT v1 3 (.bool false), (by simp [putT, e2]), hS.step (Lz.mono FL) hL hi rfl (by decide) (Below.refl _ _) (Lz.toIs F3)⟩
            · have hns := hS.open hL hi rfl
              have hB := hS.a hns
              have e3 := Lz.ofIs (hS.f hns 3 rfl (ready_dep hi 3 (by kernel_rfl))) F3
              refine wpOpT_of (fun K hK => ?_)
              unfold wpOp
              simp only [e3]
              go_simp
              refine Or.inl ?_
              exact hK _ _ ⟨putT v1 4 (.bool false), (by simp [putT, e3]), hS.step (Lz.mono FL) hL hi rfl (by decide) (Below.refl _ _) (Lz.toIs F4)⟩
            · have hns := hS.open hL hi rfl
              have hB := hS.a hns
              have e4 := Lz.ofIs (hS.f hns 4 rfl (ready_dep hi 4 (by kernel_rfl))) F4
              refine wpOpT_of (fun K hK => ?_)
              unfold wpOp
              simp only [e4]
              go_simp
              refine Or.inl ?_
              exact hK _ _ ⟨putT v1 5 (.pointer (some ⟨w.heap.size, 2, none⟩)), (by simp [putT, e4]), hS.step (Lz.mono FL) hL hi rfl (by decide) (Below.refl _ _) (Lz.toIs F5)⟩
            · have hns := hS.open hL hi rfl
              have hB := hS.a hns
              have e4 := Lz.ofIs (hS.f hns 4 rfl (ready_dep hi 4 (by kernel_rfl))) F4
              have e5 := Lz.ofIs (hS.f hns 5 rfl (ready_dep hi 5 (by kernel_rfl))) F5
              have r2 : w1a.cell? ⟨w.heap.size, 2, none⟩ = some _ := (hB.cell (p := ⟨w.heap.size, 2, none⟩) xlt).trans x2
              refine wpOpT_of (fun K hK => ?_)
              unfold wpOp
              simp only [e4, e5]
              go_simp
              refine Or.inl ?_
              exact hK _ _ ⟨putT v1 6 (.slice bo ys.length bcap), (by simp [putT, e4, e5]), hS.step (Lz.mono FL) hL hi rfl (by decide) (Below.refl _ _) (Lz.toIs F6)⟩
            · have hns := hS.open hL hi rfl
              have hB := hS.a hns
              have e4 := Lz.ofIs (hS.f hns 4 rfl (ready_dep hi 4 (by kernel_rfl))) F4
              have e6 := Lz.ofIs (hS.f hns 6 rfl (ready_dep hi 6 (by kernel_rfl))) F6
              refine wpOpT_of (fun K hK => ?_)
              unfold wpOp
              simp only [e4, e6]
              go_simp
              refine Or.inl ?_
              exact hK _ _ ⟨putT v1 7 (.int .i64 ys.length), (by simp [putT, e4, e6]), hS.step (Lz.mono FL) hL hi rfl (by decide) (Below.refl _ _) (Lz.toIs F7)⟩
            · have hns := hS.open hL hi rfl
              have hB := hS.a hns
              have e4 := Lz.ofIs (hS.f hns 4 rfl (ready_dep hi 4 (by kernel_rfl))) F4
              have e7 := Lz.ofIs (hS.f hns 7 rfl (ready_dep hi 7 (by kernel_rfl))) F7
              refine wpOpT_of (fun K hK => ?_)
              unfold wpOp
              simp only [e4, e7]
              go_simp
              refine Or.inl ?_
              exact hK _ _ ⟨putT v1 8 (.bool false), (by simp [putT, e4, e7]), hS.step (Lz.mono FL) hL hi rfl (by decide) (Below.refl _ _) (Lz.toIs F8)⟩
            · have hns := hS.open hL hi rfl
              have hB := hS.a hns
              have e4 := Lz.ofIs (hS.f hns 4 rfl (ready_dep hi 4 (by kernel_rfl))) F4
              have e8 := Lz.ofIs (hS.f hns 8 rfl (ready_dep hi 8 (by kernel_rfl))) F8
              refine wpOpT_of (fun K hK => ?_)
              unfold wpOp
              simp only [e4, e8]
              go_simp
              refine Or.inl ?_
              exact hK _ _ ⟨putT v1 9 (.bool false), (by simp [putT, e4, e8]), hS.step (Lz.mono FL) hL hi rfl (by decide) (Below.refl _ _) (Lz.toIs F9)⟩
            · have hns := hS.open hL hi rfl
              have hB := hS.a hns
              have e9 := Lz.ofIs (hS.f hns 9 rfl (ready_dep hi 9 (by kernel_rfl))) F9
              refine wpOpT_of (fun K hK => ?_)
              unfold wpOp
              simp only [e9]
              go_simp
              refine Or.inl ?_
              exact hK _ _ ⟨putT v1 10 (.bool false), (by simp [putT, e9]), hS.step (Lz.mono FL) hL hi rfl (by decide) (Below.refl _ _) (Lz.toIs F10)⟩
            · have hns := hS.open hL hi rfl
              have hB := hS.a hns
              have e10 := Lz.ofIs (hS.f hns 10 rfl (ready_dep hi 10 (by kernel_rfl))) F10
              refine wpOpT_of (fun K hK => ?_)
              unfold wpOp
              simp only [e10]
              go_simp
              refine Or.inl ?_
              exact hK _ _ ⟨putT v1 11 (.pointer (some ⟨w.heap.size, 1, none⟩)), (by simp [putT, e10]), hS.step (Lz.mono FL) hL hi rfl (by decide) (Below.refl _ _) (Lz.toIs F11)⟩
            · have hns := hS.open hL hi rfl
              have hB := hS.a hns
              have e10 := Lz.ofIs (hS.f hns 10 rfl (ready_dep hi 10 (by kernel_rfl))) F10
              have e11 := Lz.ofIs (hS.f hns 11 rfl (ready_dep hi 11 (by kernel_rfl))) F11
              have r1 : w1a.cell? ⟨w.heap.size, 1, none⟩ = some _ := (hB.cell (p := ⟨w.heap.size, 1, none⟩) xlt).trans x1
              refine wpOpT_of (fun K hK => ?_)
              unfold wpOp
              simp only [e10, e11]
              go_simp
              refine Or.inl ?_
              exact hK _ _ ⟨putT v1 12 (.slice ao xs.length cap), (by simp [putT, e10, e11]), hS.step (Lz.mono FL) hL hi rfl (by decide) (Below.refl _ _) (Lz.toIs F12)⟩
            · have hns := hS.open hL hi rfl
              have hB := hS.a hns
              have e10 := Lz.ofIs (hS.f hns 10 rfl (ready_dep hi 10 (by kernel_rfl))) F10
              have e12 := Lz.ofIs (hS.f hns 12 rfl (ready_dep hi 12 (by kernel_rfl))) F12
              refine wpOpT_of (fun K hK => ?_)
              unfold wpOp
              simp only [e10, e12]
              go_simp
              refine Or.inl ?_
              go_at_call 41
              refine (ct _ (A1.below hB)).mono ?_
              rintro e w1 ⟨ro, rc, rfl, kr, _, bc⟩
              exact hK _ _ ⟨putT v1 13 (.slice ro (lo (vl xs)).length rc), (by simp [putT, e10, e12]), hS.step (Lz.mono FL) hL hi rfl (by decide) (bc) (Lz.toGn F13 (⟨_, _, rfl, kr⟩))⟩
            · have hns := hS.open hL hi rfl
              have hB := hS.a hns
              have e10 := Lz.ofIs (hS.f hns 10 rfl (ready_dep hi 10 (by kernel_rfl))) F10
              obtain ⟨ao13, ac13, e13, u13⟩ := Lz.ofGn (hS.f hns 13 rfl (ready_dep hi 13 (by kernel_rfl))) F13
              refine wpOpT_of (fun K hK => ?_)
              unfold wpOp
              simp only [e10, e13]
              go_simp
              refine Or.inl ?_
              exact hK _ _ ⟨putT v1 14 (.int .i64 (lo (vl xs)).length), (by simp [putT, e10, e13]), hS.step (Lz.mono FL) hL hi rfl (by decide) (Below.refl _ _) (Lz.toIs F14)⟩
            · have hns := hS.open hL hi rfl
              have hB := hS.a hns
              have e10 := Lz.ofIs (hS.f hns 10 rfl (ready_dep hi 10 (by kernel_rfl))) F10
              refine wpOpT_of (fun K hK => ?_)
              unfold wpOp
              simp only [e10]
              go_simp
              refine Or.inl ?_
              exact hK _ _ ⟨putT v1 15 (.pointer (some ⟨w.heap.size, 1, none⟩)), (by simp [putT, e10]), hS.step (Lz.mono FL) hL hi rfl (by decide) (Below.refl _ _) (Lz.toIs F15)⟩
            · have hns := hS.open hL hi rfl
              have hB := hS.a hns
              have e10 := Lz.ofIs (hS.f hns 10 rfl (ready_dep hi 10 (by kernel_rfl))) F10
              have e15 := Lz.ofIs (hS.f hns 15 rfl (ready_dep hi 15 (by kernel_rfl))) F15
              have r1 : w1a.cell? ⟨w.heap.size, 1, none⟩ = some _ := (hB.cell (p := ⟨w.heap.size, 1, none⟩) xlt).trans x1
              refine wpOpT_of (fun K hK => ?_)
              unfold wpOp
              simp only [e10, e15]
              go_simp
              refine Or.inl ?_
              exact hK _ _ ⟨putT v1 16 (.slice ao xs.length cap), (by simp [putT, e10, e15]), hS.step (Lz.mono FL) hL hi rfl (by decide) (Below.refl _ _) (Lz.toIs F16)⟩
            · have hns := hS.open hL hi rfl
              have hB := hS.a hns
              have e10 := Lz.ofIs (hS.f hns 10 rfl (ready_dep hi 10 (by kernel_rfl))) F10
              have e16 := Lz.ofIs (hS.f hns 16 rfl (ready_dep hi 16 (by kernel_rfl))) F16
              refine wpOpT_of (fun K hK => ?_)
              unfold wpOp
              simp only [e10, e16]
              go_simp
              refine Or.inl ?_
              exact hK _ _ ⟨putT v1 17 (.int .i64 xs.length), (by simp [putT, e10, e16]), hS.step (Lz.mono FL) hL hi rfl (by decide) (Below.refl _ _) (Lz.toIs F17)⟩
            · have hns := hS.open hL hi rfl
              have hB := hS.a hns
              have e10 := Lz.ofIs (hS.f hns 10 rfl (ready_dep hi 10 (by kernel_rfl))) F10
              have e14 := Lz.ofIs (hS.f hns 14 rfl (ready_dep hi 14 (by kernel_rfl))) F14
              have e17 := Lz.ofIs (hS.f hns 17 rfl (ready_dep hi 17 (by kernel_rfl))) F17
              refine wpOpT_of (fun K hK => ?_)
              unfold wpOp
              simp only [e10, e14, e17]
              go_simp
              refine Or.inl ?_
              exact hK _ _ ⟨putT v1 18 (.bool false), (by simp [putT, e10, e14, e17]), hS.step (Lz.mono FL) hL hi rfl (by decide) (Below.refl _ _) (Lz.toIs F18)⟩
            · have hns := hS.open hL hi rfl
              have hB := hS.a hns
              have e10 := Lz.ofIs (hS.f hns 10 rfl (ready_dep hi 10 (by kernel_rfl))) F10
              have e18 := Lz.ofIs (hS.f hns 18 rfl (ready_dep hi 18 (by kernel_rfl))) F18
              refine wpOpT_of (fun K hK => ?_)
              unfold wpOp
              simp only [e10, e18]
              go_simp
              refine Or.inl ?_
              exact hK _ _ ⟨putT v1 19 (.bool false), (by simp [putT, e10, e18]), hS.step (Lz.mono FL) hL hi rfl (by decide) (Below.refl _ _) (Lz.toIs F19)⟩
            · have hns := hS.open hL hi rfl
              have hB := hS.a hns
              have e19 := Lz.ofIs (hS.f hns 19 rfl (ready_dep hi 19 (by kernel_rfl))) F19
              refine wpOpT_of (fun K hK => ?_)
              unfold wpOp
              simp only [e19]
              go_simp
              refine Or.inl ?_
              exact hK _ _ ⟨putT v1 20 (.bool false), (by simp [putT, e19]), hS.step (Lz.mono FL) hL hi rfl (by decide) (Below.refl _ _) (Lz.toIs F20)⟩
            · have hns := hS.open hL hi rfl
              have hB := hS.a hns
              have e20 := Lz.ofIs (hS.f hns 20 rfl (ready_dep hi 20 (by kernel_rfl))) F20
              refine wpOpT_of (fun K hK => ?_)
              unfold wpOp
              simp only [e20]
              go_simp
              refine Or.inl ?_
              exact hK _ _ ⟨putT v1 21 (.pointer (some ⟨w.heap.size, 2, none⟩)), (by simp [putT, e20]), hS.step (Lz.mono FL) hL hi rfl (by decide) (Below.refl _ _) (Lz.toIs F21)⟩
            · have hns := hS.open hL hi rfl
              have hB := hS.a hns
              have e20 := Lz.ofIs (hS.f hns 20 rfl (ready_dep hi 20 (by kernel_rfl))) F20
              have e21 := Lz.ofIs (hS.f hns 21 rfl (ready_dep hi 21 (by kernel_rfl))) F21
              have r2 : w1a.cell? ⟨w.heap.size, 2, none⟩ = some _ := (hB.cell (p := ⟨w.heap.size, 2, none⟩) xlt).trans x2
              refine wpOpT_of (fun K hK => ?_)
              unfold wpOp
              simp only [e20, e21]
              go_simp
              refine Or.inl ?_
              exact hK _ _ ⟨putT v1 22 (.slice bo ys.length bcap), (by simp [putT, e20, e21]), hS.step (Lz.mono FL) hL hi rfl (by decide) (Below.refl _ _) (Lz.toIs F22)⟩
            · have hns := hS.open hL hi rfl
              have hB := hS.a hns
              have e20 := Lz.ofIs (hS.f hns 20 rfl (ready_dep hi 20 (by kernel_rfl))) F20
              have e22 := Lz.ofIs (hS.f hns 22 rfl (ready_dep hi 22 (by kernel_rfl))) F22
              refine wpOpT_of (fun K hK => ?_)
              unfold wpOp
              simp only [e20, e22]
              go_simp
              refine Or.inl ?_
              go_at_call 41
              refine (cu _ (A2.below hB)).mono ?_
              rintro e w1 ⟨ro, rc, rfl, kr, _, bc⟩
              exact hK _ _ ⟨putT v1 23 (.slice ro (lo (vl ys)).length rc), (by simp [putT, e20, e22]), hS.step (Lz.mono FL) hL hi rfl (by decide) (bc) (Lz.toGn F23 (⟨_, _, rfl, kr⟩))⟩
            · have hns := hS.open hL hi rfl
              have hB := hS.a hns
              have e20 := Lz.ofIs (hS.f hns 20 rfl (ready_dep hi 20 (by kernel_rfl))) F20
              obtain ⟨ao23, ac23, e23, u23⟩ := Lz.ofGn (hS.f hns 23 rfl (ready_dep hi 23 (by kernel_rfl))) F23
              refine wpOpT_of (fun K hK => ?_)
              unfold wpOp
              simp only [e20, e23]
              go_simp
              refine Or.inl ?_
              exact hK _ _ ⟨putT v1 24 (.int .i64 (lo (vl ys)).length), (by simp [putT, e20, e23]), hS.step (Lz.mono FL) hL hi rfl (by decide) (Below.refl _ _) (Lz.toIs F24)⟩
            · have hns := hS.open hL hi rfl
              have hB := hS.a hns
              have e20 := Lz.ofIs (hS.f hns 20 rfl (ready_dep hi 20 (by kernel_rfl))) F20
              refine wpOpT_of (fun K hK => ?_)
              unfold wpOp
              simp only [e20]
              go_simp
              refine Or.inl ?_
              exact hK _ _ ⟨putT v1 25 (.pointer (some ⟨w.heap.size, 2, none⟩)), (by simp [putT, e20]), hS.step (Lz.mono FL) hL hi rfl (by decide) (Below.refl _ _) (Lz.toIs F25)⟩
            · have hns := hS.open hL hi rfl
              have hB := hS.a hns
              have e20 := Lz.ofIs (hS.f hns 20 rfl (ready_dep hi 20 (by kernel_rfl))) F20
              have e25 := Lz.ofIs (hS.f hns 25 rfl (ready_dep hi 25 (by kernel_rfl))) F25
              have r2 : w1a.cell? ⟨w.heap.size, 2, none⟩ = some _ := (hB.cell (p := ⟨w.heap.size, 2, none⟩) xlt).trans x2
              refine wpOpT_of (fun K hK => ?_)
              unfold wpOp
              simp only [e20, e25]
              go_simp
              refine Or.inl ?_
              exact hK _ _ ⟨putT v1 26 (.slice bo ys.length bcap), (by simp [putT, e20, e25]), hS.step (Lz.mono FL) hL hi rfl (by decide) (Below.refl _ _) (Lz.toIs F26)⟩
            · have hns := hS.open hL hi rfl
              have hB := hS.a hns
              have e20 := Lz.ofIs (hS.f hns 20 rfl (ready_dep hi 20 (by kernel_rfl))) F20
              have e26 := Lz.ofIs (hS.f hns 26 rfl (ready_dep hi 26 (by kernel_rfl))) F26
              refine wpOpT_of (fun K hK => ?_)
              unfold wpOp
              simp only [e20, e26]
              go_simp
              refine Or.inl ?_
              exact hK _ _ ⟨putT v1 27 (.int .i64 ys.length), (by simp [putT, e20, e26]), hS.step (Lz.mono FL) hL hi rfl (by decide) (Below.refl _ _) (Lz.toIs F27)⟩
            · have hns := hS.open hL hi rfl
              have hB := hS.a hns
              have e20 := Lz.ofIs (hS.f hns 20 rfl (ready_dep hi 20 (by kernel_rfl))) F20
              have e24 := Lz.ofIs (hS.f hns 24 rfl (ready_dep hi 24 (by kernel_rfl))) F24
              have e27 := Lz.ofIs (hS.f hns 27 rfl (ready_dep hi 27 (by kernel_rfl))) F27
              refine wpOpT_of (fun K hK => ?_)
              unfold wpOp
              simp only [e20, e24, e27]
              go_simp
              refine Or.inl ?_
              exact hK _ _ ⟨putT v1 28 (.bool true), (by simp [putT, e20, e24, e27]), hS.step (Lz.mono FL) hL hi rfl (by decide) (Below.refl _ _) (Lz.toIs F28)⟩
            · have hns := hS.open hL hi rfl
              have hB := hS.a hns
              have e20 := Lz.ofIs (hS.f hns 20 rfl (ready_dep hi 20 (by kernel_rfl))) F20
              have e28 := Lz.ofIs (hS.f hns 28 rfl (ready_dep hi 28 (by kernel_rfl))) F28
              refine wpOpT_of (fun K hK => ?_)
              unfold wpOp
              simp only [e20, e28]
              go_simp
              refine Or.inl ?_
              exact hK _ _ ⟨putT v1 29 (.bool true), (by simp [putT, e20, e28]), hS.step (Lz.mono FL) hL hi rfl (by decide) (Below.refl _ _) (Lz.toIs F29)⟩
            · have hns := hS.open hL hi rfl
              have hB := hS.a hns
              have e29 := Lz.ofIs (hS.f hns 29 rfl (ready_dep hi 29 (by kernel_rfl))) F29
              refine wpOpT_of (fun K hK => ?_)
              unfold wpOp
              simp only [e29]
              go_simp
              refine Or.inl ?_
              exact hK _ _ ⟨putT v1 30 (.bool true), (by simp [putT, e29]), hS.step (Lz.mono FL) hL hi rfl (by decide) (Below.refl _ _) (Lz.toIs F30)⟩
            · have hns := hS.open hL hi rfl
              have hB := hS.a hns
              have e30 := Lz.ofIs (hS.f hns 30 rfl (ready_dep hi 30 (by kernel_rfl))) F30
              refine wpOpT_of (fun K hK => ?_)
              unfold wpOp
              simp only [e30]
              go_simp
              exact hK _ _ ⟨putT v1 31 undef, (by simp [putT, e30]), hS.step (Lz.mono FL) hL hi rfl (by decide) (Below.refl _ _) (Lz.toTr F31)⟩
            · have hns := hS.open hL hi rfl
              have hB := hS.a hns
              have e30 := Lz.ofIs (hS.f hns 30 rfl (ready_dep hi 30 (by kernel_rfl))) F30
              refine wpOpT_of (fun K hK => ?_)
              unfold wpOp
              simp only [e30]
              go_simp
              exact hK _ _ ⟨putT v1 32 undef, (by simp [putT, e30]), hS.step (Lz.mono FL) hL hi rfl (by decide) (Below.refl _ _) (Lz.toTr F32)⟩
            · have hns := hS.open hL hi rfl
              have hB := hS.a hns
              have e30 := Lz.ofIs (hS.f hns 30 rfl (ready_dep hi 30 (by kernel_rfl))) F30
              refine wpOpT_of (fun K hK => ?_)
              unfold wpOp
              simp only [e30]
              go_simp
              exact hK _ _ ⟨putT v1 33 undef, (by simp [putT, e30]), hS.step (Lz.mono FL) hL hi rfl (by decide) (Below.refl _ _) (Lz.toTr F33)⟩
            · have hns := hS.open hL hi rfl
              have hB := hS.a hns
              have e30 := Lz.ofIs (hS.f hns 30 rfl (ready_dep hi 30 (by kernel_rfl))) F30
              refine wpOpT_of (fun K hK => ?_)
              unfold wpOp
              simp only [e30]
              go_simp
              exact hK _ _ ⟨putT v1 34 undef, (by simp [putT, e30]), hS.step (Lz.mono FL) hL hi rfl (by decide) (Below.refl _ _) (Lz.toTr F34)⟩
            · have hns := hS.open hL hi rfl
              have hB := hS.a hns
              have e30 := Lz.ofIs (hS.f hns 30 rfl (ready_dep hi 30 (by kernel_rfl))) F30
              refine wpOpT_of (fun K hK => ?_)
              unfold wpOp
              simp only [e30]
              go_simp
              refine Or.inl ?_
              exact hK _ _ ⟨putT v1 35 (.bool true), (by simp [putT, e30]), hS.step (Lz.mono FL) hL hi rfl (by decide) (Below.refl _ _) (Lz.toIs F35)⟩
          · intro L v1 w1a hL hS hr
            have on := all_done hL hr (by kernel_rfl)
            have hns : ¬ On L 1036 := onT_over (by rw [hL]; exact Nat.le_of_ble_eq_true (by kernel_rfl))
            have hB := hS.a hns
            have e35 := Lz.ofIs (hS.f hns 35 rfl (on 35 (by decide))) F35
            try dsimp only
            rw [e35]
            clear hS on hr hns
            have hb3 := hb0.trans (hB.mono hb0.size)
            go_wp2
            go_ret
            exact ⟨rfl, hb3⟩
        · have i3 : (((lo (vl ys)).length : Int) != (ys.length : Int)) = false := by rw [bne_eq_false_iff_eq]; omega
          by_cases k4 : ys.length = 0
          · obtain rfl : rt = false := HR.1 (Or.inr (Or.inr (Or.inr (Or.inr (k4)))))
            have i4 : ((ys.length : Int) == 0) = true := by rw [beq_iff_eq]; omega
            clear k4 HR cg co cy c1 hcg hcy gl
            obtain ⟨FL, hFL⟩ : ∃ f : Nat → Lz, f = (fun j => match j with | 0 => .is (.pointer (some ⟨w.heap.size, 1, none⟩)) | 1 => .is (.slice ao xs.length cap) | 2 => .is (.int .i64 xs.length) | 3 => .is (.bool false) | 4 => .is (.bool false) | 5 => .is (.pointer (some ⟨w.heap.size, 2, none⟩)) | 6 => .is (.slice bo ys.length bcap) | 7 => .is (.int .i64 ys.length) | 8 => .is (.bool false) | 9 => .is (.bool false) | 10 => .is (.bool false) | 11 => .is (.pointer (some ⟨w.heap.size, 1, none⟩)) | 12 => .is (.slice ao xs.length cap) | 13 => .gn (fun a x => ∃ ao ac, x = .slice ao (lo (vl xs)).length ac ∧ NS a ao ac (lo (vl xs))) (fun a a' x h hb => h.elim fun ao h => h.elim fun ac h => ⟨ao, ac, h.1, h.2.below hb⟩) | 14 => .is (.int .i64 (lo (vl xs)).length) | 15 => .is (.pointer (some ⟨w.heap.size, 1, none⟩)) | 16 => .is (.slice ao xs.length cap) | 17 => .is (.int .i64 xs.length) | 18 => .is (.bool false) | 19 => .is (.bool false) | 20 => .is (.bool false) | 21 => .is (.pointer (some ⟨w.heap.size, 2, none⟩)) | 22 => .is (.slice bo ys.length bcap) | 23 => .gn (fun a x => ∃ ao ac, x = .slice ao (lo (vl ys)).length ac ∧ NS a ao ac (lo (vl ys))) (fun a a' x h hb => h.elim fun ao h => h.elim fun ac h => ⟨ao, ac, h.1, h.2.below hb⟩) | 24 => .is (.int .i64 (lo (vl ys)).length) | 25 => .is (.pointer (some ⟨w.heap.size, 2, none⟩)) | 26 => .is (.slice bo ys.length bcap) | 27 => .is (.int .i64 ys.length) | 28 => .is (.bool false) | 29 => .is (.bool false) | 30 => .is (.bool false) | 31 => .is (.pointer (some ⟨w.heap.size, 2, none⟩)) | 32 => .is (.slice bo ys.length bcap) | 33 => .is (.int .i64 ys.length) | 34 => .is (.bool true) | 35 => .is (.bool true) | _ => .tr) := ⟨_, rfl⟩
            have F0 := congrFun hFL 0
            have F1 := congrFun hFL 1
            have F2 := congrFun hFL 2
            have F3 := congrFun hFL 3
            have F4 := congrFun hFL 4
            have F5 := congrFun hFL 5
            have F6 := congrFun hFL 6
            have F7 := congrFun hFL 7
            have F8 := congrFun hFL 8
            have F9 := congrFun hFL 9
            have F10 := congrFun hFL 10
            have F11 := congrFun hFL 11
            have F12 := congrFun hFL 12
            have F13 := congrFun hFL 13
            have F14 := congrFun hFL 14
            have F15 := congrFun hFL 15
            have F16 := congrFun hFL 16
            have F17 := congrFun hFL 17
            have F18 := congrFun hFL 18
            have F19 := congrFun hFL 19
            have F20 := congrFun hFL 20
            have F21 := congrFun hFL 21
            have F22 := congrFun hFL 22
            have F23 := congrFun hFL 23
            have F24 := congrFun hFL 24
            have F25 := congrFun hFL 25
            have F26 := congrFun hFL 26
            have F27 := congrFun hFL 27
            have F28 := congrFun hFL 28
            have F29 := congrFun hFL 29
            have F30 := congrFun hFL 30
            have F31 := congrFun hFL 31
            have F32 := congrFun hFL 32
            have F33 := congrFun hFL 33
            have F34 := congrFun hFL 34
            have F35 := congrFun hFL 35
            simp only at F0 F1 F2 F3 F4 F5 F6 F7 F8 F9 F10 F11 F12 F13 F14 F15 F16 F17 F18 F19 F20 F21 F22 F23 F24 F25 F26 F27 F28 F29 F30 F31 F32 F33 F34 F35
            clear hFL
            refine region_rgT (by kernel_rfl) (fun v1 => ⟨#[Value.agg #[Value.bool neg, Value.slice ao xs.length cap, Value.slice bo ys.length bcap], Value.pointer (some { block := w.heap.size, off := 0 }), Value.bool false, v1 0, v1 1, v1 2, v1 3, v1 4, v1 5, v1 6, v1 7, v1 8, v1 9, v1 10, v1 11, v1 12, v1 13, v1 14, v1 15, v1 16, v1 17, v1 18, v1 19, v1 20, v1 21, v1 22, v1 23, v1 24, v1 25, v1 26, v1 27, v1 28, v1 29, v1 30, v1 31, v1 32, v1 33, v1 34, v1 35, undef, undef, undef, undef, undef, undef, undef, undef, undef, undef, undef, undef, undef, undef, undef, undef, undef, undef, undef, undef, undef, undef], []⟩) 1036 (fun j => true) (fun j w0 x => (FL j).holds w0 x) (fun j x => match j with  | _ => True) (fun _ => True) (fun j => match j with  | _ => undef) rfl ?_ ?_
            · intro L v1 w1a i hL hS hi
              obtain ⟨h1, h2, h3⟩ := mem_ready hi
              have h1 : i < 36 := h1
              try dsimp only
              have hcs : i = 0 ∨ i = 1 ∨ i = 2 ∨ i = 3 ∨ i = 4 ∨ i = 5 ∨ i = 6 ∨ i = 7 ∨ i = 8 ∨ i = 9 ∨ i = 10 ∨ i = 11 ∨ i = 12 ∨ i = 13 ∨ i = 14 ∨ i = 15 ∨ i = 16 ∨ i = 17 ∨ i = 18 ∨ i = 19 ∨ i = 20 ∨ i = 21 ∨ i = 22 ∨ i = 23 ∨ i = 24 ∨ i = 25 ∨ i = 26 ∨ i = 27 ∨ i = 28 ∨ i = 29 ∨ i = 30 ∨ i = 31 ∨ i = 32 ∨ i = 33 ∨ i = 34 ∨ i = 35 := by omega
              clear h1 h2 h3
              rcases hcs with rfl | rfl | rfl | rfl | rfl | rfl | rfl | rfl | rfl | rfl | rfl | rfl | rfl | rfl | rfl | rfl | rfl | rfl | rfl | rfl | rfl | rfl | rfl | rfl | rfl | rfl | rfl | rfl | rfl | rfl | rfl | rfl | rfl | rfl | rfl | rfl
              · have hns := hS.open hL hi rfl
                have hB := hS.a hns
                refine wpOpT_of (fun K hK => ?_)
                unfold wpOp
                go_simp
                refine Or.inl ?_
                exact hK _ _ ⟨putT v1 0 (.pointer (some ⟨w.heap.size, 1, none⟩)), (by simp [putT]), hS.step (Lz.mono FL) hL hi rfl (by decide) (Below.refl _ _) (Lz.toIs F0)⟩
              · have hns := hS.open hL hi rfl
                have hB := hS.a hns
                have e0 := Lz.ofIs (hS.f hns 0 rfl (ready_dep hi 0 (by kernel_rfl))) F0
                have r1 : w1a.cell? ⟨w.heap.size, 1, none⟩ = some _ := (hB.cell (p := ⟨w.heap.size, 1, none⟩) xlt).trans x1
                refine wpOpT_of (fun K hK => ?_)
                unfold wpOp
                simp only [e0]
                go_simp
                refine Or.inl ?_
                exact hK _ _ ⟨putT v1 1 (.slice ao xs.length cap), (by simp [putT, e0]), hS.step (Lz.mono FL) hL hi rfl (by decide) (Below.refl _ _) (Lz.toIs F1)⟩
              · have hns := hS.open hL hi rfl
                have hB := hS.a hns
                have e1 := Lz.ofIs (hS.f hns 1 rfl (ready_dep hi 1 (by kernel_rfl))) F1
                refine wpOpT_of (fun K hK => ?_)
                unfold wpOp
                simp only [e1]
                go_simp
                refine Or.inl ?_
                exact hK _ _ ⟨putT v1 2 (.int .i64 xs.length), (by simp [putT, e1]), hS.step (Lz.mono FL) hL hi rfl (by decide) (Below.refl _ _) (Lz.toIs F2)⟩
              · have hns := hS.open hL hi rfl
                have hB := hS.a hns
                have e2 := Lz.ofIs (hS.f hns 2 rfl (ready_dep hi 2 (by kernel_rfl))) F2
                refine wpOpT_of (fun K hK => ?_)
                unfold wpOp
                simp only [e2]
                go_simp
                refine Or.inl ?_
                exact hK _ _ ⟨putT v1 3 (.bool false), (by simp [putT, e2]), hS.step (Lz.mono FL) hL hi rfl (by decide) (Below.refl _ _) (Lz.toIs F3)⟩
              · have hns := hS.open hL hi rfl
                have hB := hS.a hns
                have e3 := Lz.ofIs (hS.f hns 3 rfl (ready_dep hi 3 (by kernel_rfl))) F3
                refine wpOpT_of (fun K hK => ?_)
                unfold wpOp
                simp only [e3]
                go_simp
                refine Or.inl ?_
                exact hK _ _ ⟨putT v1 4 (.bool false), (by simp [putT, e3]), hS.step (Lz.mono FL) hL hi rfl (by decide) (Below.refl _ _) (Lz.toIs F4)⟩
              · have hns := hS.open hL hi rfl
                have hB := hS.a hns
                have e4 := Lz.ofIs (hS.f hns 4 rfl (ready_dep hi 4 (by kernel_rfl))) F4
                refine wpOpT_of (fun K hK => ?_)
                unfold wpOp
                simp only [e4]
                go_simp
                refine Or.inl ?_
                exact hK _ _ ⟨putT v1 5 (.pointer (some ⟨w.heap.size, 2, none⟩)), (by simp [putT, e4]), hS.step (Lz.mono FL) hL hi rfl (by decide) (Below.refl _ _) (Lz.toIs F5)⟩
              · have hns := hS.open hL hi rfl
                have hB := hS.a hns
                have e4 := Lz.ofIs (hS.f hns 4 rfl (ready_dep hi 4 (by kernel_rfl))) F4
                have e5 := Lz.ofIs (hS.f hns 5 rfl (ready_dep hi 5 (by kernel_rfl))) F5
                have r2 : w1a.cell? ⟨w.heap.size, 2, none⟩ = some _ := (hB.cell (p := ⟨w.heap.size, 2, none⟩) xlt).trans x2
                refine wpOpT_of (fun K hK => ?_)
                unfold wpOp
                simp only [e4, e5]
                go_simp
                refine Or.inl ?_
                exact hK _ _ ⟨putT v1 6 (.slice bo ys.length bcap), (by simp [putT, e4, e5]), hS.step (Lz.mono FL) hL hi rfl (by decide) (Below.refl _ _) (Lz.toIs F6)⟩
              · have hns := hS.open hL hi rfl
                have hB := hS.a hns
                have e4 := Lz.ofIs (hS.f hns 4 rfl (ready_dep hi 4 (by kernel_rfl))) F4
                have e6 := Lz.ofIs (hS.f hns 6 rfl (ready_dep hi 6 (by kernel_rfl))) F6
                refine wpOpT_of (fun K hK => ?_)
                unfold wpOp
                simp only [e4, e6]
                go_simp
                refine Or.inl ?_
                exact hK _ _ ⟨putT v1 7 (.int .i64 ys.length), (by simp [putT, e4, e6]), hS.step (Lz.mono FL) hL hi rfl (by decide) (Below.refl _ _) (Lz.toIs F7)⟩
              · have hns := hS.open hL hi rfl
                have hB := hS.a hns
                have e4 := Lz.ofIs (hS.f hns 4 rfl (ready_dep hi 4 (by kernel_rfl))) F4
                have e7 := Lz.ofIs (hS.f hns 7 rfl (ready_dep hi 7 (by kernel_rfl))) F7
                refine wpOpT_of (fun K hK => ?_)
                unfold wpOp
                simp only [e4, e7]
                go_simp
                refine Or.inl ?_
                exact hK _ _ ⟨putT v1 8 (.bool false), (by simp [putT, e4, e7]), hS.step (Lz.mono FL) hL hi rfl (by decide) (Below.refl _ _) (Lz.toIs F8)⟩
              · have hns := hS.open hL hi rfl
                have hB := hS.a hns
                have e4 := Lz.ofIs (hS.f hns 4 rfl (ready_dep hi 4 (by kernel_rfl))) F4
                have e8 := Lz.ofIs (hS.f hns 8 rfl (ready_dep hi 8 (by kernel_rfl))) F8
                refine wpOpT_of (fun K hK => ?_)
                unfold wpOp
                simp only [e4, e8]
                go_simp
                refine Or.inl ?_
                exact hK _ _ ⟨putT v1 9 (.bool false), (by simp [putT, e4, e8]), hS.step (Lz.mono FL) hL hi rfl (by decide) (Below.refl _ _) (Lz.toIs F9)⟩
              · have hns := hS.open hL hi rfl
                have hB := hS.a hns
                have e9 := Lz.ofIs (hS.f hns 9 rfl (ready_dep hi 9 (by kernel_rfl))) F9
                refine wpOpT_of (fun K hK => ?_)
                unfold wpOp
                simp only [e9]
                go_simp
                refine Or.inl ?_
                exact hK _ _ ⟨putT v1 10 (.bool false), (by simp [putT, e9]), hS.step (Lz.mono FL) hL hi rfl (by decide) (Below.refl _ _) (Lz.toIs F10)⟩
              · have hns := hS.open hL hi rfl
                have hB := hS.a hns
                have e10 := Lz.ofIs (hS.f hns 10 rfl (ready_dep hi 10 (by kernel_rfl))) F10
                refine wpOpT_of (fun K hK => ?_)
                unfold wpOp
                simp only [e10]
                go_simp
                refine Or.inl ?_
                exact hK _ _ ⟨putT v1 11 (.pointer (some ⟨w.heap.size, 1, none⟩)), (by simp [putT, e10]), hS.step (Lz.mono FL) hL hi rfl (by decide) (Below.refl _ _) (Lz.toIs F11)⟩
              · have hns := hS.open hL hi rfl
                have hB := hS.a hns
                have e10 := Lz.ofIs (hS.f hns 10 rfl (ready_dep hi 10 (by kernel_rfl))) F10
                have e11 := Lz.ofIs (hS.f hns 11 rfl (ready_dep hi 11 (by kernel_rfl))) F11
                have r1 : w1a.cell? ⟨w.heap.size, 1, none⟩ = some _ := (hB.cell (p := ⟨w.heap.size, 1, none⟩) xlt).trans x1
                refine wpOpT_of (fun K hK => ?_)
                unfold wpOp
                simp only [e10, e11]
                go_simp
                refine Or.inl ?_
                exact hK _ _ ⟨putT v1 12 (.slice ao xs.length cap), (by simp [putT, e10, e11]), hS.step (Lz.mono FL) hL hi rfl (by decide) (Below.refl _ _) (Lz.toIs F12)⟩
              · have hns := hS.open hL hi rfl
                have hB := hS.a hns
                have e10 := Lz.ofIs (hS.f hns 10 rfl (ready_dep hi 10 (by kernel_rfl))) F10
                have e12 := Lz.ofIs (hS.f hns 12 rfl (ready_dep hi 12 (by kernel_rfl))) F12
                refine wpOpT_of (fun K hK => ?_)
                unfold wpOp
                simp only [e10, e12]
                go_simp
                refine Or.inl ?_
                go_at_call 41
                refine (ct _ (A1.below hB)).mono ?_
                rintro e w1 ⟨ro, rc, rfl, kr, _, bc⟩
                exact hK _ _ ⟨putT v1 13 (.slice ro (lo (vl xs)).length rc), (by simp [putT, e10, e12]), hS.step (Lz.mono FL) hL hi rfl (by decide) (bc) (Lz.toGn F13 (⟨_, _, rfl, kr⟩))⟩
              · have hns := hS.open hL hi rfl
                have hB := hS.a hns
                have e10 := Lz.ofIs (hS.f hns 10 rfl (ready_dep hi 10 (by kernel_rfl))) F10
                obtain ⟨ao13, ac13, e13, u13⟩ := Lz.ofGn (hS.f hns 13 rfl (ready_dep hi 13 (by kernel_rfl))) F13
                refine wpOpT_of (fun K hK => ?_)
                unfold wpOp
                simp only [e10, e13]
                go_simp
                refine Or.inl ?_
                exact hK _ _ ⟨putT v1 14 (.int .i64 (lo (vl xs)).length), (by simp [putT, e10, e13]), hS.step (Lz.mono FL) hL hi rfl (by decide) (Below.refl _ _) (Lz.toIs F14)⟩
              · have hns := hS.open hL hi rfl
                have hB := hS.a hns
                have e10 := Lz.ofIs (hS.f hns 10 rfl (ready_dep hi 10 (by kernel_rfl))) F10
                refine wpOpT_of (fun K hK => ?_)
                unfold wpOp
                simp only [e10]
                go_simp
                refine Or.inl ?_
                exact hK _ _ ⟨putT v1 15 (.pointer (some ⟨w.heap.size, 1, none⟩)), (by simp [putT, e10]), hS.step (Lz.mono FL) hL hi rfl (by decide) (Below.refl _ _) (Lz.toIs F15)⟩
              · have hns := hS.open hL hi rfl
                have hB := hS.a hns
                have e10 := Lz.ofIs (hS.f hns 10 rfl (ready_dep hi 10 (by kernel_rfl))) F10
                have e15 := Lz.ofIs (hS.f hns 15 rfl (ready_dep hi 15 (by kernel_rfl))) F15
                have r1 : w1a.cell? ⟨w.heap.size, 1, none⟩ = some _ := (hB.cell (p := ⟨w.heap.size, 1, none⟩) xlt).trans x1
                refine wpOpT_of (fun K hK => ?_)
                unfold wpOp
                simp only [e10, e15]
                go_simp
                refine Or.inl ?_
                exact hK _ _ ⟨putT v1 16 (.slice ao xs.length cap), (by simp [putT, e10, e15]), hS.step (Lz.mono FL) hL hi rfl (by decide) (Below.refl _ _) (Lz.toIs F16)⟩
              · have hns := hS.open hL hi rfl
                have hB := hS.a hns
                have e10 := Lz.ofIs (hS.f hns 10 rfl (ready_dep hi 10 (by kernel_rfl))) F10
                have e16 := Lz.ofIs (hS.f hns 16 rfl (ready_dep hi 16 (by kernel_rfl))) F16
                refine wpOpT_of (fun K hK => ?_)
                unfold wpOp
                simp only [e10, e16]
                go_simp
                refine Or.inl ?_
                exact hK _ _ ⟨putT v1 17 (.int .i64 xs.length), (by simp [putT, e10, e16]), hS.step (Lz.mono FL) hL hi rfl (by decide) (Below.refl _ _) (Lz.toIs F17)⟩
              · have hns := hS.open hL hi rfl
                have hB := hS.a hns
                have e10 := Lz.ofIs (hS.f hns 10 rfl (ready_dep hi 10 (by kernel_rfl))) F10
                have e14 := Lz.ofIs (hS.f hns 14 rfl (ready_dep hi 14 (by kernel_rfl))) F14
                have e17 := Lz.ofIs (hS.f hns 17 rfl (ready_dep hi 17 (by kernel_rfl))) F17
                refine wpOpT_of (fun K hK => ?_)
                unfold wpOp
                simp only [e10, e14, e17]
                go_simp
                refine Or.inl ?_
                exact hK _ _ ⟨putT v1 18 (.bool false), (by simp [putT, e10, e14, e17]), hS.step (Lz.mono FL) hL hi rfl (by decide) (Below.refl _ _) (Lz.toIs F18)⟩
              · have hns := hS.open hL hi rfl
                have hB := hS.a hns
                have e10 := Lz.ofIs (hS.f hns 10 rfl (ready_dep hi 10 (by kernel_rfl))) F10
                have e18 := Lz.ofIs (hS.f hns 18 rfl (ready_dep hi 18 (by kernel_rfl))) F18
                refine wpOpT_of (fun K hK => ?_)
                unfold wpOp
                simp only [e10, e18]
                go_simp
                refine Or.inl ?_
                exact hK _ _ ⟨putT v1 19 (.bool false), (by simp [putT, e10, e18]), hS.step (Lz.mono FL) hL hi rfl (by decide) (Below.refl _ _) (Lz.toIs F19)⟩
              · have hns := hS.open hL hi rfl
                have hB := hS.a hns
                have e19 := Lz.ofIs (hS.f hns 19 rfl (ready_dep hi 19 (by kernel_rfl))) F19
                refine wpOpT_of (fun K hK => ?_)
                unfold wpOp
                simp only [e19]
                go_simp
                refine Or.inl ?_
                exact hK _ _ ⟨putT v1 20 (.bool false), (by simp [putT, e19]), hS.step (Lz.mono FL) hL hi rfl (by decide) (Below.refl _ _) (Lz.toIs F20)⟩
              · have hns := hS.open hL hi rfl
                have hB := hS.a hns
                have e20 := Lz.ofIs (hS.f hns 20 rfl (ready_dep hi 20 (by kernel_rfl))) F20
                refine wpOpT_of (fun K hK => ?_)
                unfold wpOp
                simp only [e20]
                go_simp
                refine Or.inl ?_
                exact hK _ _ ⟨putT v1 21 (.pointer (some ⟨w.heap.size, 2, none⟩)), (by simp [putT, e20]), hS.step (Lz.mono FL) hL hi rfl (by decide) (Below.refl _ _) (Lz.toIs F21)⟩
              · have hns := hS.open hL hi rfl
                have hB := hS.a hns
                have e20 := Lz.ofIs (hS.f hns 20 rfl (ready_dep hi 20 (by kernel_rfl))) F20
                have e21 := Lz.ofIs (hS.f hns 21 rfl (ready_dep hi 21 (by kernel_rfl))) F21
                have r2 : w1a.cell? ⟨w.heap.size, 2, none⟩ = some _ := (hB.cell (p := ⟨w.heap.size, 2, none⟩) xlt).trans x2
                refine wpOpT_of (fun K hK => ?_)
                unfold wpOp
                simp only [e20, e21]
                go_simp
                refine Or.inl ?_
                exact hK _ _ ⟨putT v1 22 (.slice bo ys.length bcap), (by simp [putT, e20, e21]), hS.step (Lz.mono FL) hL hi rfl (by decide) (Below.refl _ _) (Lz.toIs F22)⟩
              · have hns := hS.open hL hi rfl
                have hB := hS.a hns
                have e20 := Lz.ofIs (hS.f hns 20 rfl (ready_dep hi 20 (by kernel_rfl))) F20
                have e22 := Lz.ofIs (hS.f hns 22 rfl (ready_dep hi 22 (by kernel_rfl))) F22
                refine wpOpT_of (fun K hK => ?_)
                unfold wpOp
                simp only [e20, e22]
                go_simp
                refine Or.inl ?_
                go_at_call 41
                refine (cu _ (A2.below hB)).mono ?_
                rintro e w1 ⟨ro, rc, rfl, kr, _, bc⟩
                exact hK _ _ ⟨putT v1 23 (.slice ro (lo (vl ys)).length rc), (by simp [putT, e20, e22]), hS.step (Lz.mono FL) hL hi rfl (by decide) (bc) (Lz.toGn F23 (⟨_, _, rfl, kr⟩))⟩
              · have hns := hS.open hL hi rfl
                have hB := hS.a hns
                have e20 := Lz.ofIs (hS.f hns 20 rfl (ready_dep hi 20 (by kernel_rfl))) F20
                obtain ⟨ao23, ac23, e23, u23⟩ := Lz.ofGn (hS.f hns 23 rfl (ready_dep hi 23 (by kernel_rfl))) F23
                refine wpOpT_of (fun K hK => ?_)
                unfold wpOp
                simp only [e20, e23]
                go_simp
                refine Or.inl ?_
                exact hK _ _ ⟨putT v1 24 (.int .i64 (lo (vl ys)).length), (by simp [putT, e20, e23]), hS.step (Lz.mono FL) hL hi rfl (by decide) (Below.refl _ _) (Lz.toIs F24)⟩
              · have hns := hS.open hL hi rfl
                have hB := hS.a hns
                have e20 := Lz.ofIs (hS.f hns 20 rfl (ready_dep hi 20 (by kernel_rfl))) F20
                refine wpOpT_of (fun K hK => ?_)
                unfold wpOp
                simp only [e20]
                go_simp
                refine Or.inl ?_
                exact hK _ _ ⟨putT v1 25 (.pointer (some ⟨w.heap.size, 2, none⟩)), (by simp [putT, e20]), hS.step (Lz.mono FL) hL hi rfl (by decide) (Below.refl _ _) (Lz.toIs F25)⟩
              · have hns := hS.open hL hi rfl
                have hB := hS.a hns
                have e20 := Lz.ofIs (hS.f hns 20 rfl (ready_dep hi 20 (by kernel_rfl))) F20
                have e25 := Lz.ofIs (hS.f hns 25 rfl (ready_dep hi 25 (by kernel_rfl))) F25
                have r2 : w1a.cell? ⟨w.heap.size, 2, none⟩ = some _ := (hB.cell (p := ⟨w.heap.size, 2, none⟩) xlt).trans x2
                refine wpOpT_of (fun K hK => ?_)
                unfold wpOp
                simp only [e20, e25]
                go_simp
                refine Or.inl ?_
                exact hK _ _ ⟨putT v1 26 (.slice bo ys.length bcap), (by simp [putT, e20, e25]), hS.step (Lz.mono FL) hL hi rfl (by decide) (Below.refl _ _) (Lz.toIs F26)⟩
              · have hns := hS.open hL hi rfl
                have hB := hS.a hns
                have e20 := Lz.ofIs (hS.f hns 20 rfl (ready_dep hi 20 (by kernel_rfl))) F20
                have e26 := Lz.ofIs (hS.f hns 26 rfl (ready_dep hi 26 (by kernel_rfl))) F26
                refine wpOpT_of (fun K hK => ?_)
                unfold wpOp
                simp only [e20, e26]
                go_simp
                refine Or.inl ?_
                exact hK _ _ ⟨putT v1 27 (.int .i64 ys.length), (by simp [putT, e20, e26]), hS.step (Lz.mono FL) hL hi rfl (by decide) (Below.refl _ _) (Lz.toIs F27)⟩
              · have hns := hS.open hL hi rfl
                have hB := hS.a hns
                have e20 := Lz.ofIs (hS.f hns 20 rfl (ready_dep hi 20 (by kernel_rfl))) F20
                have e24 := Lz.ofIs (hS.f hns 24 rfl (ready_dep hi 24 (by kernel_rfl))) F24
                have e27 := Lz.ofIs (hS.f hns 27 rfl (ready_dep hi 27 (by kernel_rfl))) F27
                refine wpOpT_of (fun K hK => ?_)
                unfold wpOp
                simp only [e20, e24, e27]
                go_simp
                refine Or.inl ?_
                exact hK _ _ ⟨putT v1 28 (.bool false), (by simp [putT, e20, e24, e27]), hS.step (Lz.mono FL) hL hi rfl (by decide) (Below.refl _ _) (Lz.toIs F28)⟩
              · have hns := hS.open hL hi rfl
                have hB := hS.a hns
                have e20 := Lz.ofIs (hS.f hns 20 rfl (ready_dep hi 20 (by kernel_rfl))) F20
                have e28 := Lz.ofIs (hS.f hns 28 rfl (ready_dep hi 28 (by kernel_rfl))) F28
                refine wpOpT_of (fun K hK => ?_)
                unfold wpOp
                simp only [e20, e28]
                go_simp
                refine Or.inl ?_
                exact hK _ _ ⟨putT v1 29 (.bool false), (by simp [putT, e20, e28]), hS.step (Lz.mono FL) hL hi rfl (by decide) (Below.refl _ _) (Lz.toIs F29)⟩
              · have hns := hS.open hL hi rfl
                have hB := hS.a hns
                have e29 := Lz.ofIs (hS.f hns 29 rfl (ready_dep hi 29 (by kernel_rfl))) F29
                refine wpOpT_of (fun K hK => ?_)
                unfold wpOp
                simp only [e29]
                go_simp
                refine Or.inl ?_
                exact hK _ _ ⟨putT v1 30 (.bool false), (by simp [putT, e29]), hS.step (Lz.mono FL) hL hi rfl (by decide) (Below.refl _ _) (Lz.toIs F30)⟩
              · have hns := hS.open hL hi rfl
                have hB := hS.a hns
                have e30 := Lz.ofIs (hS.f hns 30 rfl (ready_dep hi 30 (by kernel_rfl))) F30
                refine wpOpT_of (fun K hK => ?_)
                unfold wpOp
                simp only [e30]
                go_simp
                refine Or.inl ?_
                exact hK _ _ ⟨putT v1 31 (.pointer (some ⟨w.heap.size, 2, none⟩)), (by simp [putT, e30]), hS.step (Lz.mono FL) hL hi rfl (by decide) (Below.refl _ _) (Lz.toIs F31)⟩
              · have hns := hS.open hL hi rfl
                have hB := hS.a hns
                have e30 := Lz.ofIs (hS.f hns 30 rfl (ready_dep hi 30 (by kernel_rfl))) F30
                have e31 := Lz.ofIs (hS.f hns 31 rfl (ready_dep hi 31 (by kernel_rfl))) F31
                have r2 : w1a.cell? ⟨w.heap.size, 2, none⟩ = some _ := (hB.cell (p := ⟨w.heap.size, 2, none⟩) xlt).trans x2
                refine wpOpT_of (fun K hK => ?_)
                unfold wpOp
                simp only [e30, e31]
                go_simp
                refine Or.inl ?_
                exact hK _ _ ⟨putT v1 32 (.slice bo ys.length bcap), (by simp [putT, e30, e31]), hS.step (Lz.mono FL) hL hi rfl (by decide) (Below.refl _ _) (Lz.toIs F32)⟩
              · have hns := hS.open hL hi rfl
                have hB := hS.a hns
                have e30 := Lz.ofIs (hS.f hns 30 rfl (ready_dep hi 30 (by kernel_rfl))) F30
                have e32 := Lz.ofIs (hS.f hns 32 rfl (ready_dep hi 32 (by kernel_rfl))) F32
                refine wpOpT_of (fun K hK => ?_)
                unfold wpOp
                simp only [e30, e32]
                go_simp
                refine Or.inl ?_
                exact hK _ _ ⟨putT v1 33 (.int .i64 ys.length), (by simp [putT, e30, e32]), hS.step (Lz.mono FL) hL hi rfl (by decide) (Below.refl _ _) (Lz.toIs F33)⟩
              · have hns := hS.open hL hi rfl
                have hB := hS.a hns
                have e30 := Lz.ofIs (hS.f hns 30 rfl (ready_dep hi 30 (by kernel_rfl))) F30
                have e33 := Lz.ofIs (hS.f hns 33 rfl (ready_dep hi 33 (by kernel_rfl))) F33
                refine wpOpT_of (fun K hK => ?_)
                unfold wpOp
                simp only [e30, e33]
                go_simp
                refine Or.inl ?_
                exact hK _ _ ⟨putT v1 34 (.bool true), (by simp [putT, e30, e33]), hS.step (Lz.mono FL) hL hi rfl (by decide) (Below.refl _ _) (Lz.toIs F34)⟩
              · have hns := hS.open hL hi rfl
                have hB := hS.a hns
                have e30 := Lz.ofIs (hS.f hns 30 rfl (ready_dep hi 30 (by kernel_rfl))) F30
                have e34 := Lz.ofIs (hS.f hns 34 rfl (ready_dep hi 34 (by kernel_rfl))) F34
                refine wpOpT_of (fun K hK => ?_)
                unfold wpOp
                simp only [e30, e34]
                go_simp
                refine Or.inl ?_
                exact hK _ _ ⟨putT v1 35 (.bool true), (by simp [putT, e30, e34]), hS.step (Lz.mono FL) hL hi rfl (by decide) (Below.refl _ _) (Lz.toIs F35)⟩
            · intro L v1 w1a hL hS hr
              have on := all_done hL hr (by kernel_rfl)
              have hns : ¬ On L 1036 := onT_over (by rw [hL]; exact Nat.le_of_ble_eq_true (by kernel_rfl))
              have hB := hS.a hns
              have e35 := Lz.ofIs (hS.f hns 35 rfl (on 35 (by decide))) F35
              try dsimp only
              rw [e35]
              clear hS on hr hns
              have hb3 := hb0.trans (hB.mono hb0.size)
              go_wp2
              go_ret
              exact ⟨rfl, hb3⟩
          · have i4 : ((ys.length : Int) == 0) = false := by rw [beq_eq_false_iff_ne]; omega
            have HT := HR.2 k0 k1 k2 k3 k4
            clear HR
            obtain ⟨FL, hFL⟩ : ∃ f : Nat → Lz, f = (fun j => match j with | 0 => .is (.pointer (some ⟨w.heap.size, 1, none⟩)) | 1 => .is (.slice ao xs.length cap) | 2 => .is (.int .i64 xs.length) | 3 => .is (.bool false) | 4 => .is (.bool false) | 5 => .is (.pointer (some ⟨w.heap.size, 2, none⟩)) | 6 => .is (.slice bo ys.length bcap) | 7 => .is (.int .i64 ys.length) | 8 => .is (.bool false) | 9 => .is (.bool false) | 10 => .is (.bool false) | 11 => .is (.pointer (some ⟨w.heap.size, 1, none⟩)) | 12 => .is (.slice ao xs.length cap) | 13 => .gn (fun a x => ∃ ao ac, x = .slice ao (lo (vl xs)).length ac ∧ NS a ao ac (lo (vl xs))) (fun a a' x h hb => h.elim fun ao h => h.elim fun ac h => ⟨ao, ac, h.1, h.2.below hb⟩) | 14 => .is (.int .i64 (lo (vl xs)).length) | 15 => .is (.pointer (some ⟨w.heap.size, 1, none⟩)) | 16 => .is (.slice ao xs.length cap) | 17 => .is (.int .i64 xs.length) | 18 => .is (.bool false) | 19 => .is (.bool false) | 20 => .is (.bool false) | 21 => .is (.pointer (some ⟨w.heap.size, 2, none⟩)) | 22 => .is (.slice bo ys.length bcap) | 23 => .gn (fun a x => ∃ ao ac, x = .slice ao (lo (vl ys)).length ac ∧ NS a ao ac (lo (vl ys))) (fun a a' x h hb => h.elim fun ao h => h.elim fun ac h => ⟨ao, ac, h.1, h.2.below hb⟩) | 24 => .is (.int .i64 (lo (vl ys)).length) | 25 => .is (.pointer (some ⟨w.heap.size, 2, none⟩)) | 26 => .is (.slice bo ys.length bcap) | 27 => .is (.int .i64 ys.length) | 28 => .is (.bool false) | 29 => .is (.bool false) | 30 => .is (.bool false) | 31 => .is (.pointer (some ⟨w.heap.size, 2, none⟩)) | 32 => .is (.slice bo ys.length bcap) | 33 => .is (.int .i64 ys.length) | 34 => .is (.bool false) | 35 => .is (.bool false) | _ => .tr) := ⟨_, rfl⟩
            have F0 := congrFun hFL 0
            have F1 := congrFun hFL 1
            have F2 := congrFun hFL 2
            have F3 := congrFun hFL 3
            have F4 := congrFun hFL 4
            have F5 := congrFun hFL 5
            have F6 := congrFun hFL 6
            have F7 := congrFun hFL 7
            have F8 := congrFun hFL 8
            have F9 := congrFun hFL 9
            have F10 := congrFun hFL 10
            have F11 := congrFun hFL 11
            have F12 := congrFun hFL 12
            have F13 := congrFun hFL 13
            have F14 := congrFun hFL 14
            have F15 := congrFun hFL 15
            have F16 := congrFun hFL 16
            have F17 := congrFun hFL 17
            have F18 := congrFun hFL 18
            have F19 := congrFun hFL 19
            have F20 := congrFun hFL 20
            have F21 := congrFun hFL 21
            have F22 := congrFun hFL 22
            have F23 := congrFun hFL 23
            have F24 := congrFun hFL 24
            have F25 := congrFun hFL 25
            have F26 := congrFun hFL 26
            have F27 := congrFun hFL 27
            have F28 := congrFun hFL 28
            have F29 := congrFun hFL 29
            have F30 := congrFun hFL 30
            have F31 := congrFun hFL 31
            have F32 := congrFun hFL 32
            have F33 := congrFun hFL 33
            have F34 := congrFun hFL 34
            have F35 := congrFun hFL 35
            simp only at F0 F1 F2 F3 F4 F5 F6 F7 F8 F9 F10 F11 F12 F13 F14 F15 F16 F17 F18 F19 F20 F21 F22 F23 F24 F25 F26 F27 F28 F29 F30 F31 F32 F33 F34 F35
            clear hFL
            refine region_rgT (by kernel_rfl) (fun v1 => ⟨#[Value.agg #[Value.bool neg, Value.slice ao xs.length cap, Value.slice bo ys.length bcap], Value.pointer (some { block := w.heap.size, off := 0 }), Value.bool false, v1 0, v1 1, v1 2, v1 3, v1 4, v1 5, v1 6, v1 7, v1 8, v1 9, v1 10, v1 11, v1 12, v1 13, v1 14, v1 15, v1 16, v1 17, v1 18, v1 19, v1 20, v1 21, v1 22, v1 23, v1 24, v1 25, v1 26, v1 27, v1 28, v1 29, v1 30, v1 31, v1 32, v1 33, v1 34, v1 35, undef, undef, undef, undef, undef, undef, undef, undef, undef, undef, undef, undef, undef, undef, undef, undef, undef, undef, undef, undef, undef, undef], []⟩) 1036 (fun j => true) (fun j w0 x => (FL j).holds w0 x) (fun j x => match j with  | _ => True) (fun _ => True) (fun j => match j with  | _ => undef) rfl ?_ ?_
            · intro L v1 w1a i hL hS hi
              obtain ⟨h1, h2, h3⟩ := mem_ready hi
              have h1 : i < 36 := h1
              try dsimp only
              have hcs : i = 0 ∨ i = 1 ∨ i = 2 ∨ i = 3 ∨ i = 4 ∨ i = 5 ∨ i = 6 ∨ i = 7 ∨ i = 8 ∨ i = 9 ∨ i = 10 ∨ i = 11 ∨ i = 12 ∨ i = 13 ∨ i = 14 ∨ i = 15 ∨ i = 16 ∨ i = 17 ∨ i = 18 ∨ i = 19 ∨ i = 20 ∨ i = 21 ∨ i = 22 ∨ i = 23 ∨ i = 24 ∨ i = 25 ∨ i = 26 ∨ i = 27 ∨ i = 28 ∨ i = 29 ∨ i = 30 ∨ i = 31 ∨ i = 32 ∨ i = 33 ∨ i = 34 ∨ i = 35 := by omega
              clear h1 h2 h3
              rcases hcs with rfl | rfl | rfl | rfl | rfl | rfl | rfl | rfl | rfl | rfl | rfl | rfl | rfl | rfl | rfl | rfl | rfl | rfl | rfl | rfl | rfl | rfl | rfl | rfl | rfl | rfl | rfl | rfl | rfl | rfl | rfl | rfl | rfl | rfl | rfl | rfl
              · have hns := hS.open hL hi rfl
                have hB := hS.a hns
                refine wpOpT_of (fun K hK => ?_)
                unfold wpOp
                go_simp
                refine Or.inl ?_
                exact hK _ _ ⟨putT v1 0 (.pointer (some ⟨w.heap.size, 1, none⟩)), (by simp [putT]), hS.step (Lz.mono FL) hL hi rfl (by decide) (Below.refl _ _) (Lz.toIs F0)⟩
              · have hns := hS.open hL hi rfl
                have hB := hS.a hns
                have e0 := Lz.ofIs (hS.f hns 0 rfl (ready_dep hi 0 (by kernel_rfl))) F0
                have r1 : w1a.cell? ⟨w.heap.size, 1, none⟩ = some _ := (hB.cell (p := ⟨w.heap.size, 1, none⟩) xlt).trans x1
                refine wpOpT_of (fun K hK => ?_)
                unfold wpOp
                simp only [e0]
                go_simp
                refine Or.inl ?_
                exact hK _ _ ⟨putT v1 1 (.slice ao xs.length cap), (by simp [putT, e0]), hS.step (Lz.mono FL) hL hi rfl (by decide) (Below.refl _ _) (Lz.toIs F1)⟩
              · have hns := hS.open hL hi rfl
                have hB := hS.a hns
                have e1 := Lz.ofIs (hS.f hns 1 rfl (ready_dep hi 1 (by kernel_rfl))) F1
                refine wpOpT_of (fun K hK => ?_)
                unfold wpOp
                simp only [e1]
                go_simp
                refine Or.inl ?_
                exact hK _ _ ⟨putT v1 2 (.int .i64 xs.length), (by simp [putT, e1]), hS.step (Lz.mono FL) hL hi rfl (by decide) (Below.refl _ _) (Lz.toIs F2)⟩
              · have hns := hS.open hL hi rfl
                have hB := hS.a hns
                have e2 := Lz.ofIs (hS.f hns 2 rfl (ready_dep hi 2 (by kernel_rfl))) F2
                refine wpOpT_of (fun K hK => ?_)
                unfold wpOp
                simp only [e2]
                go_simp
                refine Or.inl ?_
                exact hK _ _ ⟨putT v1 3 (.bool false), (by simp [putT, e2]), hS.step (Lz.mono FL) hL hi rfl (by decide) (Below.refl _ _) (Lz.toIs F3)⟩
              · have hns := hS.open hL hi rfl
                have hB := hS.a hns
                have e3 := Lz.ofIs (hS.f hns 3 rfl (ready_dep hi 3 (by kernel_rfl))) F3
                refine wpOpT_of (fun K hK => ?_)
                unfold wpOp
                simp only [e3]
                go_simp
                refine Or.inl ?_
                exact hK _ _ ⟨putT v1 4 (.bool false), (by simp [putT, e3]), hS.step (Lz.mono FL) hL hi rfl (by decide) (Below.refl _ _) (Lz.toIs F4)⟩
              · have hns := hS.open hL hi rfl
                have hB := hS.a hns
                have e4 := Lz.ofIs (hS.f hns 4 rfl (ready_dep hi 4 (by kernel_rfl))) F4
                refine wpOpT_of (fun K hK => ?_)
                unfold wpOp
                simp only [e4]
                go_simp
                refine Or.inl ?_
                exact hK _ _ ⟨putT v1 5 (.pointer (some ⟨w.heap.size, 2, none⟩)), (by simp [putT, e4]), hS.step (Lz.mono FL) hL hi rfl (by decide) (Below.refl _ _) (Lz.toIs F5)⟩
              · have hns := hS.open hL hi rfl
                have hB := hS.a hns
                have e4 := Lz.ofIs (hS.f hns 4 rfl (ready_dep hi 4 (by kernel_rfl))) F4
                have e5 := Lz.ofIs (hS.f hns 5 rfl (ready_dep hi 5 (by kernel_rfl))) F5
                have r2 : w1a.cell? ⟨w.heap.size, 2, none⟩ = some _ := (hB.cell (p := ⟨w.heap.size, 2, none⟩) xlt).trans x2
                refine wpOpT_of (fun K hK => ?_)
                unfold wpOp
                simp only [e4, e5]
                go_simp
                refine Or.inl ?_
                exact hK _ _ ⟨putT v1 6 (.slice bo ys.length bcap), (by simp [putT, e4, e5]), hS.step (Lz.mono FL) hL hi rfl (by decide) (Below.refl _ _) (Lz.toIs F6)⟩
              · have hns := hS.open hL hi rfl
                have hB := hS.a hns
                have e4 := Lz.ofIs (hS.f hns 4 rfl (ready_dep hi 4 (by kernel_rfl))) F4
                have e6 := Lz.ofIs (hS.f hns 6 rfl (ready_dep hi 6 (by kernel_rfl))) F6
                refine wpOpT_of (fun K hK => ?_)
                unfold wpOp
                simp only [e4, e6]
                go_simp
                refine Or.inl ?_
                exact hK _ _ ⟨putT v1 7 (.int .i64 ys.length), (by simp [putT, e4, e6]), hS.step (Lz.mono FL) hL hi rfl (by decide) (Below.refl _ _) (Lz.toIs F7)⟩
              · have hns := hS.open hL hi rfl
                have hB := hS.a hns
                have e4 := Lz.ofIs (hS.f hns 4 rfl (ready_dep hi 4 (by kernel_rfl))) F4
                have e7 := Lz.ofIs (hS.f hns 7 rfl (ready_dep hi 7 (by kernel_rfl))) F7
                refine wpOpT_of (fun K hK => ?_)
                unfold wpOp
                simp only [e4, e7]
                go_simp
                refine Or.inl ?_
                exact hK _ _ ⟨putT v1 8 (.bool false), (by simp [putT, e4, e7]), hS.step (Lz.mono FL) hL hi rfl (by decide) (Below.refl _ _) (Lz.toIs F8)⟩
              · have hns := hS.open hL hi rfl
                have hB := hS.a hns
                have e4 := Lz.ofIs (hS.f hns 4 rfl (ready_dep hi 4 (by kernel_rfl))) F4
                have e8 := Lz.ofIs (hS.f hns 8 rfl (ready_dep hi 8 (by kernel_rfl))) F8
                refine wpOpT_of (fun K hK => ?_)
                unfold wpOp
                simp only [e4, e8]
                go_simp
                refine Or.inl ?_
                exact hK _ _ ⟨putT v1 9 (.bool false), (by simp [putT, e4, e8]), hS.step (Lz.mono FL) hL hi rfl (by decide) (Below.refl _ _) (Lz.toIs F9)⟩
              · have hns := hS.open hL hi rfl
                have hB := hS.a hns
                have e9 := Lz.ofIs (hS.f hns 9 rfl (ready_dep hi 9 (by kernel_rfl))) F9
                refine wpOpT_of (fun K hK => ?_)
                unfold wpOp
                simp only [e9]
                go_simp
                refine Or.inl ?_
                exact hK _ _ ⟨putT v1 10 (.bool false), (by simp [putT, e9]), hS.step (Lz.mono FL) hL hi rfl (by decide) (Below.refl _ _) (Lz.toIs F10)⟩
              · have hns := hS.open hL hi rfl
                have hB := hS.a hns
                have e10 := Lz.ofIs (hS.f hns 10 rfl (ready_dep hi 10 (by kernel_rfl))) F10
                refine wpOpT_of (fun K hK => ?_)
                unfold wpOp
                simp only [e10]
                go_simp
                refine Or.inl ?_
                exact hK _ _ ⟨putT v1 11 (.pointer (some ⟨w.heap.size, 1, none⟩)), (by simp [putT, e10]), hS.step (Lz.mono FL) hL hi rfl (by decide) (Below.refl _ _) (Lz.toIs F11)⟩
              · have hns := hS.open hL hi rfl
                have hB := hS.a hns
                have e10 := Lz.ofIs (hS.f hns 10 rfl (ready_dep hi 10 (by kernel_rfl))) F10
                have e11 := Lz.ofIs (hS.f hns 11 rfl (ready_dep hi 11 (by kernel_rfl))) F11
                have r1 : w1a.cell? ⟨w.heap.size, 1, none⟩ = some _ := (hB.cell (p := ⟨w.heap.size, 1, none⟩) xlt).trans x1
                refine wpOpT_of (fun K hK => ?_)
                unfold wpOp
                simp only [e10, e11]
                go_simp
                refine Or.inl ?_
                exact hK _ _ ⟨putT v1 12 (.slice ao xs.length cap), (by simp [putT, e10, e11]), hS.step (Lz.mono FL) hL hi rfl (by decide) (Below.refl _ _) (Lz.toIs F12)⟩
              · have hns := hS.open hL hi rfl
                have hB := hS.a hns
                have e10 := Lz.ofIs (hS.f hns 10 rfl (ready_dep hi 10 (by kernel_rfl))) F10
                have e12 := Lz.ofIs (hS.f hns 12 rfl (ready_dep hi 12 (by kernel_rfl))) F12
                refine wpOpT_of (fun K hK => ?_)
                unfold wpOp
                simp only [e10, e12]
                go_simp
                refine Or.inl ?_
                go_at_call 41
                refine (ct _ (A1.below hB)).mono ?_
                rintro e w1 ⟨ro, rc, rfl, kr, _, bc⟩
                exact hK _ _ ⟨putT v1 13 (.slice ro (lo (vl xs)).length rc), (by simp [putT, e10, e12]), hS.step (Lz.mono FL) hL hi rfl (by decide) (bc) (Lz.toGn F13 (⟨_, _, rfl, kr⟩))⟩
              · have hns := hS.open hL hi rfl
                have hB := hS.a hns
                have e10 := Lz.ofIs (hS.f hns 10 rfl (ready_dep hi 10 (by kernel_rfl))) F10
                obtain ⟨ao13, ac13, e13, u13⟩ := Lz.ofGn (hS.f hns 13 rfl (ready_dep hi 13 (by kernel_rfl))) F13
                refine wpOpT_of (fun K hK => ?_)
                unfold wpOp
                simp only [e10, e13]
                go_simp
                refine Or.inl ?_
                exact hK _ _ ⟨putT v1 14 (.int .i64 (lo (vl xs)).length), (by simp [putT, e10, e13]), hS.step (Lz.mono FL) hL hi rfl (by decide) (Below.refl _ _) (Lz.toIs F14)⟩
              · have hns := hS.open hL hi rfl
                have hB := hS.a hns
                have e10 := Lz.ofIs (hS.f hns 10 rfl (ready_dep hi 10 (by kernel_rfl))) F10
                refine wpOpT_of (fun K hK => ?_)
                unfold wpOp
                simp only [e10]
                go_simp
                refine Or.inl ?_
                exact hK _ _ ⟨putT v1 15 (.pointer (some ⟨w.heap.size, 1, none⟩)), (by simp [putT, e10]), hS.step (Lz.mono FL) hL hi rfl (by decide) (Below.refl _ _) (Lz.toIs F15)⟩
              · have hns := hS.open hL hi rfl
                have hB := hS.a hns
                have e10 := Lz.ofIs (hS.f hns 10 rfl (ready_dep hi 10 (by kernel_rfl))) F10
                have e15 := Lz.ofIs (hS.f hns 15 rfl (ready_dep hi 15 (by kernel_rfl))) F15
                have r1 : w1a.cell? ⟨w.heap.size, 1, none⟩ = some _ := (hB.cell (p := ⟨w.heap.size, 1, none⟩) xlt).trans x1
                refine wpOpT_of (fun K hK => ?_)
                unfold wpOp
                simp only [e10, e15]
                go_simp
                refine Or.inl ?_
                exact hK _ _ ⟨putT v1 16 (.slice ao xs.length cap), (by simp [putT, e10, e15]), hS.step (Lz.mono FL) hL hi rfl (by decide) (Below.refl _ _) (Lz.toIs F16)⟩
              · have hns := hS.open hL hi rfl
                have hB := hS.a hns
                have e10 := Lz.ofIs (hS.f hns 10 rfl (ready_dep hi 10 (by kernel_rfl))) F10
                have e16 := Lz.ofIs (hS.f hns 16 rfl (ready_dep hi 16 (by kernel_rfl))) F16
                refine wpOpT_of (fun K hK => ?_)
                unfold wpOp
                simp only [e10, e16]
                go_simp
                refine Or.inl ?_
                exact hK _ _ ⟨putT v1 17 (.int .i64 xs.length), (by simp [putT, e10, e16]), hS.step (Lz.mono FL) hL hi rfl (by decide) (Below.refl _ _) (Lz.toIs F17)⟩
              · have hns := hS.open hL hi rfl
                have hB := hS.a hns
                have e10 := Lz.ofIs (hS.f hns 10 rfl (ready_dep hi 10 (by kernel_rfl))) F10
                have e14 := Lz.ofIs (hS.f hns 14 rfl (ready_dep hi 14 (by kernel_rfl))) F14
                have e17 := Lz.ofIs (hS.f hns 17 rfl (ready_dep hi 17 (by kernel_rfl))) F17
                refine wpOpT_of (fun K hK => ?_)
                unfold wpOp
                simp only [e10, e14, e17]
                go_simp
                refine Or.inl ?_
                exact hK _ _ ⟨putT v1 18 (.bool false), (by simp [putT, e10, e14, e17]), hS.step (Lz.mono FL) hL hi rfl (by decide) (Below.refl _ _) (Lz.toIs F18)⟩
              · have hns := hS.open hL hi rfl
                have hB := hS.a hns
                have e10 := Lz.ofIs (hS.f hns 10 rfl (ready_dep hi 10 (by kernel_rfl))) F10
                have e18 := Lz.ofIs (hS.f hns 18 rfl (ready_dep hi 18 (by kernel_rfl))) F18
                refine wpOpT_of (fun K hK => ?_)
                unfold wpOp
                simp only [e10, e18]
                go_simp
                refine Or.inl ?_
                exact hK _ _ ⟨putT v1 19 (.bool false), (by simp [putT, e10, e18]), hS.step (Lz.mono FL) hL hi rfl (by decide) (Below.refl _ _) (Lz.toIs F19)⟩
              · have hns := hS.open hL hi rfl
                have hB := hS.a hns
                have e19 := Lz.ofIs (hS.f hns 19 rfl (ready_dep hi 19 (by kernel_rfl))) F19
                refine wpOpT_of (fun K hK => ?_)
                unfold wpOp
                simp only [e19]
                go_simp
                refine Or.inl ?_
                exact hK _ _ ⟨putT v1 20 (.bool false), (by simp [putT, e19]), hS.step (Lz.mono FL) hL hi rfl (by decide) (Below.refl _ _) (Lz.toIs F20)⟩
              · have hns := hS.open hL hi rfl
                have hB := hS.a hns
                have e20 := Lz.ofIs (hS.f hns 20 rfl (ready_dep hi 20 (by kernel_rfl))) F20
                refine wpOpT_of (fun K hK => ?_)
                unfold wpOp
                simp only [e20]
                go_simp
                refine Or.inl ?_
                exact hK _ _ ⟨putT v1 21 (.pointer (some ⟨w.heap.size, 2, none⟩)), (by simp [putT, e20]), hS.step (Lz.mono FL) hL hi rfl (by decide) (Below.refl _ _) (Lz.toIs F21)⟩
              · have hns := hS.open hL hi rfl
                have hB := hS.a hns
                have e20 := Lz.ofIs (hS.f hns 20 rfl (ready_dep hi 20 (by kernel_rfl))) F20
                have e21 := Lz.ofIs (hS.f hns 21 rfl (ready_dep hi 21 (by kernel_rfl))) F21
                have r2 : w1a.cell? ⟨w.heap.size, 2, none⟩ = some _ := (hB.cell (p := ⟨w.heap.size, 2, none⟩) xlt).trans x2
                refine wpOpT_of (fun K hK => ?_)
                unfold wpOp
                simp only [e20, e21]
                go_simp
                refine Or.inl ?_
                exact hK _ _ ⟨putT v1 22 (.slice bo ys.length bcap), (by simp [putT, e20, e21]), hS.step (Lz.mono FL) hL hi rfl (by decide) (Below.refl _ _) (Lz.toIs F22)⟩
              · have hns := hS.open hL hi rfl
                have hB := hS.a hns
                have e20 := Lz.ofIs (hS.f hns 20 rfl (ready_dep hi 20 (by kernel_rfl))) F20
                have e22 := Lz.ofIs (hS.f hns 22 rfl (ready_dep hi 22 (by kernel_rfl))) F22
                refine wpOpT_of (fun K hK => ?_)
                unfold wpOp
                simp only [e20, e22]
                go_simp
                refine Or.inl ?_
                go_at_call 41
                refine (cu _ (A2.below hB)).mono ?_
                rintro e w1 ⟨ro, rc, rfl, kr, _, bc⟩
                exact hK _ _ ⟨putT v1 23 (.slice ro (lo (vl ys)).length rc), (by simp [putT, e20, e22]), hS.step (Lz.mono FL) hL hi rfl (by decide) (bc) (Lz.toGn F23 (⟨_, _, rfl, kr⟩))⟩
              · have hns := hS.open hL hi rfl
                have hB := hS.a hns
                have e20 := Lz.ofIs (hS.f hns 20 rfl (ready_dep hi 20 (by kernel_rfl))) F20
                obtain ⟨ao23, ac23, e23, u23⟩ := Lz.ofGn (hS.f hns 23 rfl (ready_dep hi 23 (by kernel_rfl))) F23
                refine wpOpT_of (fun K hK => ?_)
                unfold wpOp
                simp only [e20, e23]
                go_simp
                refine Or.inl ?_
                exact hK _ _ ⟨putT v1 24 (.int .i64 (lo (vl ys)).length), (by simp [putT, e20, e23]), hS.step (Lz.mono FL) hL hi rfl (by decide) (Below.refl _ _) (Lz.toIs F24)⟩
              · have hns := hS.open hL hi rfl
                have hB := hS.a hns
                have e20 := Lz.ofIs (hS.f hns 20 rfl (ready_dep hi 20 (by kernel_rfl))) F20
                refine wpOpT_of (fun K hK => ?_)
                unfold wpOp
                simp only [e20]
                go_simp
                refine Or.inl ?_
                exact hK _ _ ⟨putT v1 25 (.pointer (some ⟨w.heap.size, 2, none⟩)), (by simp [putT, e20]), hS.step (Lz.mono FL) hL hi rfl (by decide) (Below.refl _ _) (Lz.toIs F25)⟩
              · have hns := hS.open hL hi rfl
                have hB := hS.a hns
                have e20 := Lz.ofIs (hS.f hns 20 rfl (ready_dep hi 20 (by kernel_rfl))) F20
                have e25 := Lz.ofIs (hS.f hns 25 rfl (ready_dep hi 25 (by kernel_rfl))) F25
                have r2 : w1a.cell? ⟨w.heap.size, 2, none⟩ = some _ := (hB.cell (p := ⟨w.heap.size, 2, none⟩) xlt).trans x2
                refine wpOpT_of (fun K hK => ?_)
                unfold wpOp
                simp only [e20, e25]
                go_simp
                refine Or.inl ?_
                exact hK _ _ ⟨putT v1 26 (.slice bo ys.length bcap), (by simp [putT, e20, e25]), hS.step (Lz.mono FL) hL hi rfl (by decide) (Below.refl _ _) (Lz.toIs F26)⟩
              · have hns := hS.open hL hi rfl
                have hB := hS.a hns
                have e20 := Lz.ofIs (hS.f hns 20 rfl (ready_dep hi 20 (by kernel_rfl))) F20
                have e26 := Lz.ofIs (hS.f hns 26 rfl (ready_dep hi 26 (by kernel_rfl))) F26
                refine wpOpT_of (fun K hK => ?_)
                unfold wpOp
                simp only [e20, e26]
                go_simp
                refine Or.inl ?_
                exact hK _ _ ⟨putT v1 27 (.int .i64 ys.length), (by simp [putT, e20, e26]), hS.step (Lz.mono FL) hL hi rfl (by decide) (Below.refl _ _) (Lz.toIs F27)⟩
              · have hns := hS.open hL hi rfl
                have hB := hS.a hns
                have e20 := Lz.ofIs (hS.f hns 20 rfl (ready_dep hi 20 (by kernel_rfl))) F20
                have e24 := Lz.ofIs (hS.f hns 24 rfl (ready_dep hi 24 (by kernel_rfl))) F24
                have e27 := Lz.ofIs (hS.f hns 27 rfl (ready_dep hi 27 (by kernel_rfl))) F27
                refine wpOpT_of (fun K hK => ?_)
                unfold wpOp
                simp only [e20, e24, e27]
                go_simp
                refine Or.inl ?_
                exact hK _ _ ⟨putT v1 28 (.bool false), (by simp [putT, e20, e24, e27]), hS.step (Lz.mono FL) hL hi rfl (by decide) (Below.refl _ _) (Lz.toIs F28)⟩
              · have hns := hS.open hL hi rfl
                have hB := hS.a hns
                have e20 := Lz.ofIs (hS.f hns 20 rfl (ready_dep hi 20 (by kernel_rfl))) F20
                have e28 := Lz.ofIs (hS.f hns 28 rfl (ready_dep hi 28 (by kernel_rfl))) F28
                refine wpOpT_of (fun K hK => ?_)
                unfold wpOp
                simp only [e20, e28]
                go_simp
                refine Or.inl ?_
                exact hK _ _ ⟨putT v1 29 (.bool false), (by simp [putT, e20, e28]), hS.step (Lz.mono FL) hL hi rfl (by decide) (Below.refl _ _) (Lz.toIs F29)⟩
              · have hns := hS.open hL hi rfl
                have hB := hS.a hns
                have e29 := Lz.ofIs (hS.f hns 29 rfl (ready_dep hi 29 (by kernel_rfl))) F29
                refine wpOpT_of (fun K hK => ?_)
                unfold wpOp
                simp only [e29]
                go_simp
                refine Or.inl ?_
                exact hK _ _ ⟨putT v1 30 (.bool false), (by simp [putT, e29]), hS.step (Lz.mono FL) hL hi rfl (by decide) (Below.refl _ _) (Lz.toIs F30)⟩
              · have hns := hS.open hL hi rfl
                have hB := hS.a hns
                have e30 := Lz.ofIs (hS.f hns 30 rfl (ready_dep hi 30 (by kernel_rfl))) F30
                refine wpOpT_of (fun K hK => ?_)
                unfold wpOp
                simp only [e30]
                go_simp
                refine Or.inl ?_
                exact hK _ _ ⟨putT v1 31 (.pointer (some ⟨w.heap.size, 2, none⟩)), (by simp [putT, e30]), hS.step (Lz.mono FL) hL hi rfl (by decide) (Below.refl _ _) (Lz.toIs F31)⟩
              · have hns := hS.open hL hi rfl
                have hB := hS.a hns
                have e30 := Lz.ofIs (hS.f hns 30 rfl (ready_dep hi 30 (by kernel_rfl))) F30
                have e31 := Lz.ofIs (hS.f hns 31 rfl (ready_dep hi 31 (by kernel_rfl))) F31
                have r2 : w1a.cell? ⟨w.heap.size, 2, none⟩ = some _ := (hB.cell (p := ⟨w.heap.size, 2, none⟩) xlt).trans x2
                refine wpOpT_of (fun K hK => ?_)
                unfold wpOp
                simp only [e30, e31]
                go_simp
                refine Or.inl ?_
                exact hK _ _ ⟨putT v1 32 (.slice bo ys.length bcap), (by simp [putT, e30, e31]), hS.step (Lz.mono FL) hL hi rfl (by decide) (Below.refl _ _) (Lz.toIs F32)⟩
              · have hns := hS.open hL hi rfl
                have hB := hS.a hns
                have e30 := Lz.ofIs (hS.f hns 30 rfl (ready_dep hi 30 (by kernel_rfl))) F30
                have e32 := Lz.ofIs (hS.f hns 32 rfl (ready_dep hi 32 (by kernel_rfl))) F32
                refine wpOpT_of (fun K hK => ?_)
                unfold wpOp
                simp only [e30, e32]
                go_simp
                refine Or.inl ?_
                exact hK _ _ ⟨putT v1 33 (.int .i64 ys.length), (by simp [putT, e30, e32]), hS.step (Lz.mono FL) hL hi rfl (by decide) (Below.refl _ _) (Lz.toIs F33)⟩
              · have hns := hS.open hL hi rfl
                have hB := hS.a hns
                have e30 := Lz.ofIs (hS.f hns 30 rfl (ready_dep hi 30 (by kernel_rfl))) F30
                have e33 := Lz.ofIs (hS.f hns 33 rfl (ready_dep hi 33 (by kernel_rfl))) F33
                refine wpOpT_of (fun K hK => ?_)
                unfold wpOp
                simp only [e30, e33]
                go_simp
                refine Or.inl ?_
                exact hK _ _ ⟨putT v1 34 (.bool false), (by simp [putT, e30, e33]), hS.step (Lz.mono FL) hL hi rfl (by decide) (Below.refl _ _) (Lz.toIs F34)⟩
              · have hns := hS.open hL hi rfl
                have hB := hS.a hns
                have e30 := Lz.ofIs (hS.f hns 30 rfl (ready_dep hi 30 (by kernel_rfl))) F30
                have e34 := Lz.ofIs (hS.f hns 34 rfl (ready_dep hi 34 (by kernel_rfl))) F34
                refine wpOpT_of (fun K hK => ?_)
                unfold wpOp
                simp only [e30, e34]
                go_simp
                refine Or.inl ?_
                exact hK _ _ ⟨putT v1 35 (.bool false), (by simp [putT, e30, e34]), hS.step (Lz.mono FL) hL hi rfl (by decide) (Below.refl _ _) (Lz.toIs F35)⟩
            · intro L v1 w1a hL hS hr
              have on := all_done hL hr (by kernel_rfl)
              have hns : ¬ On L 1036 := onT_over (by rw [hL]; exact Nat.le_of_ble_eq_true (by kernel_rfl))
              have hB := hS.a hns
              have e35 := Lz.ofIs (hS.f hns 35 rfl (on 35 (by decide))) F35
              try dsimp only
              rw [e35]
              clear hS on hr hns
              have hb3 := hb0.trans (hB.mono hb0.size)
              clear i0 i1 i2 i3 i4
              have AB3 := AB.below hB
              have A13 := A1.below hB
              have A23 := A2.below hB
              obtain ⟨y0, y1, y2, _, _, _, _, ylt⟩ := id AB3
              clear AB A1 A2 hb0 x0 x1 x2 xlt
              by_cases hx : xs.length = 0
              · have ix : ((xs.length : Int) == 0) = true := by rw [beq_iff_eq]; omega
                have HX := HT.2.1 hx
                clear hx HT
                cases neg
                · go_upto_region 4 with fail
                  obtain ⟨FL, hFL⟩ : ∃ f : Nat → Lz, f = (fun j => match j with | 0 => .is (.pointer (some ⟨w.heap.size, 0, none⟩)) | 1 => .is (.bool false) | 2 => .is (.bool true) | 3 => .is (.bool true) | 4 => .is (.pointer (some ⟨w.heap.size, 2, none⟩)) | 5 => .is (.slice bo ys.length bcap) | 6 => .gn (fun a x => ∃ ao ac, x = .slice ao (lo 1).length ac ∧ NS a ao ac (lo 1)) (fun a a' x h hb => h.elim fun ao h => h.elim fun ac h => ⟨ao, ac, h.1, h.2.below hb⟩) | 7 => .is (.int .i64 sy) | 8 => .is (.bool (sy == 0)) | 9 => .is (.bool (sy == 0)) | 10 => .is (.bool (sy == 0)) | _ => .tr) := ⟨_, rfl⟩
                  have F0 := congrFun hFL 0
                  have F1 := congrFun hFL 1
                  have F2 := congrFun hFL 2
                  have F3 := congrFun hFL 3
                  have F4 := congrFun hFL 4
                  have F5 := congrFun hFL 5
                  have F6 := congrFun hFL 6
                  have F7 := congrFun hFL 7
                  have F8 := congrFun hFL 8
                  have F9 := congrFun hFL 9
                  have F10 := congrFun hFL 10
                  simp only at F0 F1 F2 F3 F4 F5 F6 F7 F8 F9 F10
                  clear hFL
                  refine region_rgT (by kernel_rfl) (fun v => ⟨#[Value.agg #[Value.bool false, Value.slice ao xs.length cap, Value.slice bo ys.length bcap], Value.pointer (some { block := w.heap.size, off := 0 }), v 10, v1 0, v1 1, v1 2, v1 3, v1 4, v1 5, v1 6, v1 7, v1 8, v1 9, v1 10, v1 11, v1 12, v1 13, v1 14, v1 15, v1 16, v1 17, v1 18, v1 19, v1 20, v1 21, v1 22, v1 23, v1 24, v1 25, v1 26, v1 27, v1 28, v1 29, v1 30, v1 31, v1 32, v1 33, v1 34, Value.bool false, Value.pointer (some { block := w.heap.size, off := 1 }), Value.slice ao xs.length cap, Value.int IntKind.i64 ↑xs.length, Value.bool true, v 0, v 1, v 2, v 3, v 4, v 5, v 6, v 7, v 8, v 9, undef, undef, undef, undef, undef, undef, undef, undef], []⟩) 1011 (fun j => true) (fun j w0 x => (FL j).holds w0 x) (fun j x => match j with  | _ => True) (fun _ => True) (fun j => match j with | 10 => Value.bool false | _ => undef) rfl ?_ ?_
                  · intro L v w' i hL hS hi
                    obtain ⟨h1, h2, h3⟩ := mem_ready hi
                    have h1 : i < 11 := h1
                    try dsimp only
                    have hcs : i = 0 ∨ i = 1 ∨ i = 2 ∨ i = 3 ∨ i = 4 ∨ i = 5 ∨ i = 6 ∨ i = 7 ∨ i = 8 ∨ i = 9 ∨ i = 10 := by omega
                    clear h1 h2 h3
                    rcases hcs with rfl | rfl | rfl | rfl | rfl | rfl | rfl | rfl | rfl | rfl | rfl
                    · have hns := hS.open hL hi rfl
                      have hB := hS.a hns
                      refine wpOpT_of (fun K hK => ?_)
                      unfold wpOp
                      go_simp
                      refine Or.inl ?_
                      exact hK _ _ ⟨putT v 0 (.pointer (some ⟨w.heap.size, 0, none⟩)), (by simp [putT]), hS.step (Lz.mono FL) hL hi rfl (by decide) (Below.refl _ _) (Lz.toIs F0)⟩
                    · have hns := hS.open hL hi rfl
                      have hB := hS.a hns
                      have e0 := Lz.ofIs (hS.f hns 0 rfl (ready_dep hi 0 (by kernel_rfl))) F0
                      have r0 : w'.cell? ⟨w.heap.size, 0, none⟩ = some _ := (hB.cell (p := ⟨w.heap.size, 0, none⟩) ylt).trans y0
                      refine wpOpT_of (fun K hK => ?_)
                      unfold wpOp
                      simp only [e0]
                      go_simp
                      refine Or.inl ?_
                      exact hK _ _ ⟨putT v 1 (.bool false), (by simp [putT, e0]), hS.step (Lz.mono FL) hL hi rfl (by decide) (Below.refl _ _) (Lz.toIs F1)⟩
                    · have hns := hS.open hL hi rfl
                      have hB := hS.a hns
                      have e1 := Lz.ofIs (hS.f hns 1 rfl (ready_dep hi 1 (by kernel_rfl))) F1
                      refine wpOpT_of (fun K hK => ?_)
                      unfold wpOp
                      simp only [e1]
                      go_simp
                      refine Or.inl ?_
                      exact hK _ _ ⟨putT v 2 (.bool true), (by simp [putT, e1]), hS.step (Lz.mono FL) hL hi rfl (by decide) (Below.refl _ _) (Lz.toIs F2)⟩
                    · have hns := hS.open hL hi rfl
                      have hB := hS.a hns
                      have e2 := Lz.ofIs (hS.f hns 2 rfl (ready_dep hi 2 (by kernel_rfl))) F2
                      refine wpOpT_of (fun K hK => ?_)
                      unfold wpOp
                      simp only [e2]
                      go_simp
                      refine Or.inl ?_
                      exact hK _ _ ⟨putT v 3 (.bool true), (by simp [putT, e2]), hS.step (Lz.mono FL) hL hi rfl (by decide) (Below.refl _ _) (Lz.toIs F3)⟩
                    · have hns := hS.open hL hi rfl
                      have hB := hS.a hns
                      have e3 := Lz.ofIs (hS.f hns 3 rfl (ready_dep hi 3 (by kernel_rfl))) F3
                      refine wpOpT_of (fun K hK => ?_)
                      unfold wpOp
                      simp only [e3]
                      go_simp
                      refine Or.inl ?_
                      exact hK _ _ ⟨putT v 4 (.pointer (some ⟨w.heap.size, 2, none⟩)), (by simp [putT, e3]), hS.step (Lz.mono FL) hL hi rfl (by decide) (Below.refl _ _) (Lz.toIs F4)⟩
                    · have hns := hS.open hL hi rfl
                      have hB := hS.a hns
                      have e3 := Lz.ofIs (hS.f hns 3 rfl (ready_dep hi 3 (by kernel_rfl))) F3
                      have e4 := Lz.ofIs (hS.f hns 4 rfl (ready_dep hi 4 (by kernel_rfl))) F4
                      have r2 : w'.cell? ⟨w.heap.size, 2, none⟩ = some _ := (hB.cell (p := ⟨w.heap.size, 2, none⟩) ylt).trans y2
                      refine wpOpT_of (fun K hK => ?_)
                      unfold wpOp
                      simp only [e3, e4]
                      go_simp
                      refine Or.inl ?_
                      exact hK _ _ ⟨putT v 5 (.slice bo ys.length bcap), (by simp [putT, e3, e4]), hS.step (Lz.mono FL) hL hi rfl (by decide) (Below.refl _ _) (Lz.toIs F5)⟩
                    · have hns := hS.open hL hi rfl
                      have hB := hS.a hns
                      have e3 := Lz.ofIs (hS.f hns 3 rfl (ready_dep hi 3 (by kernel_rfl))) F3
                      refine wpOpT_of (fun K hK => ?_)
                      unfold wpOp
                      simp only [e3]
                      go_simp
                      refine Or.inl ?_
                      go_at_call 48
                      refine (co _).mono ?_
                      rintro e w1 ⟨ro, rc, rfl, kr, _, bc⟩
                      exact hK _ _ ⟨putT v 6 (.slice ro (lo 1).length rc), (by simp [putT, e3]), hS.step (Lz.mono FL) hL hi rfl (by decide) (bc) (Lz.toGn F6 (⟨_, _, rfl, kr⟩))⟩
                    · have hns := hS.open hL hi rfl
                      have hB := hS.a hns
                      have e3 := Lz.ofIs (hS.f hns 3 rfl (ready_dep hi 3 (by kernel_rfl))) F3
                      have e5 := Lz.ofIs (hS.f hns 5 rfl (ready_dep hi 5 (by kernel_rfl))) F5
                      obtain ⟨ao6, ac6, e6, u6⟩ := Lz.ofGn (hS.f hns 6 rfl (ready_dep hi 6 (by kernel_rfl))) F6
                      refine wpOpT_of (fun K hK => ?_)
                      unfold wpOp
                      simp only [e3, e5, e6]
                      go_simp
                      refine Or.inl ?_
                      go_at_call 47
                      refine (cy _ _ _ (A23.below hB) u6).mono ?_
                      rintro e w1 ⟨rfl, bc⟩
                      exact hK _ _ ⟨putT v 7 (.int .i64 sy), (by simp [putT, e3, e5, e6]), hS.step (Lz.mono FL) hL hi rfl (by decide) (bc) (Lz.toIs F7)⟩
                    · have hns := hS.open hL hi rfl
                      have hB := hS.a hns
                      have e3 := Lz.ofIs (hS.f hns 3 rfl (ready_dep hi 3 (by kernel_rfl))) F3
                      have e7 := Lz.ofIs (hS.f hns 7 rfl (ready_dep hi 7 (by kernel_rfl))) F7
                      refine wpOpT_of (fun K hK => ?_)
                      unfold wpOp
                      simp only [e3, e7]
                      go_simp
                      refine Or.inl ?_
                      exact hK _ _ ⟨putT v 8 (.bool (sy == 0)), (by simp [putT, e3, e7]), hS.step (Lz.mono FL) hL hi rfl (by decide) (Below.refl _ _) (Lz.toIs F8)⟩
                    · have hns := hS.open hL hi rfl
                      have hB := hS.a hns
                      have e3 := Lz.ofIs (hS.f hns 3 rfl (ready_dep hi 3 (by kernel_rfl))) F3
                      have e8 := Lz.ofIs (hS.f hns 8 rfl (ready_dep hi 8 (by kernel_rfl))) F8
                      refine wpOpT_of (fun K hK => ?_)
                      unfold wpOp
                      simp only [e3, e8]
                      go_simp
                      refine Or.inl ?_
                      exact hK _ _ ⟨putT v 9 (.bool (sy == 0)), (by simp [putT, e3, e8]), hS.step (Lz.mono FL) hL hi rfl (by decide) (Below.refl _ _) (Lz.toIs F9)⟩
                    · have hns := hS.open hL hi rfl
                      have hB := hS.a hns
                      have e9 := Lz.ofIs (hS.f hns 9 rfl (ready_dep hi 9 (by kernel_rfl))) F9
                      refine wpOpT_of (fun K hK => ?_)
                      unfold wpOp
                      simp only [e9]
                      go_simp
                      refine Or.inl ?_
                      exact hK _ _ ⟨putT v 10 (.bool (sy == 0)), (by simp [putT, e9]), hS.step (Lz.mono FL) hL hi rfl (by decide) (Below.refl _ _) (Lz.toIs F10)⟩
                  · intro L v w' hL hS hr
                    have on := all_done hL hr (by kernel_rfl)
                    have hns : ¬ On L 1011 := onT_over (by rw [hL]; exact Nat.le_of_ble_eq_true (by kernel_rfl))
                    have hB := hS.a hns
                    have e10 := Lz.ofIs (hS.f hns 10 rfl (on 10 (by decide))) F10
                    try dsimp only
                    rw [e10]
                    clear hS on hr hns
                    have hb4 := hb3.trans (hB.mono hb3.size)
                    go_wp2
                    go_ret
                    exact ⟨(by rw [HX, hcy.out]; rfl), hb4⟩
                · go_upto_region 4 with fail
                  obtain ⟨FL, hFL⟩ : ∃ f : Nat → Lz, f = (fun j => match j with | 0 => .is (.pointer (some ⟨w.heap.size, 0, none⟩)) | 1 => .is (.bool true) | 2 => .is (.bool false) | 3 => .is (.bool false) | 4 => .tr | 5 => .tr | 6 => .tr | 7 => .tr | 8 => .tr | 9 => .is (.bool false) | 10 => .is (.bool false) | _ => .tr) := ⟨_, rfl⟩
                  have F0 := congrFun hFL 0
                  have F1 := congrFun hFL 1
                  have F2 := congrFun hFL 2
                  have F3 := congrFun hFL 3
                  have F4 := congrFun hFL 4
                  have F5 := congrFun hFL 5
                  have F6 := congrFun hFL 6
                  have F7 := congrFun hFL 7
                  have F8 := congrFun hFL 8
                  have F9 := congrFun hFL 9
                  have F10 := congrFun hFL 10
                  simp only at F0 F1 F2 F3 F4 F5 F6 F7 F8 F9 F10
                  clear hFL
                  refine region_rgT (by kernel_rfl) (fun v => ⟨#[.agg #[.bool true, .slice ao xs.length cap, .slice bo ys.length bcap], Value.pointer (some { block := w.heap.size, off := 0 }), v 10, v1 0, v1 1, v1 2, v1 3, v1 4, v1 5, v1 6, v1 7, v1 8, v1 9, v1 10, v1 11, v1 12, v1 13, v1 14, v1 15, v1 16, v1 17, v1 18, v1 19, v1 20, v1 21, v1 22, v1 23, v1 24, v1 25, v1 26, v1 27, v1 28, v1 29, v1 30, v1 31, v1 32, v1 33, v1 34, Value.bool false, Value.pointer (some { block := w.heap.size, off := 1 }), Value.slice ao xs.length cap, Value.int IntKind.i64 ↑xs.length, Value.bool true, v 0, v 1, v 2, v 3, v 4, v 5, v 6, v 7, v 8, v 9, undef, undef, undef, undef, undef, undef, undef, undef], []⟩) 1011 (fun j => true) (fun j w0 x => (FL j).holds w0 x) (fun j x => match j with  | _ => True) (fun _ => True) (fun j => match j with | 10 => Value.bool false | _ => undef) rfl ?_ ?_
                  · intro L v w' i hL hS hi
                    obtain ⟨h1, h2, h3⟩ := mem_ready hi
                    have h1 : i < 11 := h1
                    try dsimp only
                    have hcs : i = 0 ∨ i = 1 ∨ i = 2 ∨ i = 3 ∨ i = 4 ∨ i = 5 ∨ i = 6 ∨ i = 7 ∨ i = 8 ∨ i = 9 ∨ i = 10 := by omega
                    clear h1 h2 h3
                    rcases hcs with rfl | rfl | rfl | rfl | rfl | rfl | rfl | rfl | rfl | rfl | rfl
                    · have hns := hS.open hL hi rfl
                      have hB := hS.a hns
                      refine wpOpT_of (fun K hK => ?_)
                      unfold wpOp
                      go_simp
                      refine Or.inl ?_
                      exact hK _ _ ⟨putT v 0 (.pointer (some ⟨w.heap.size, 0, none⟩)), (by simp [putT]), hS.step (Lz.mono FL) hL hi rfl (by decide) (Below.refl _ _) (Lz.toIs F0)⟩
                    · have hns := hS.open hL hi rfl
                      have hB := hS.a hns
                      have e0 := Lz.ofIs (hS.f hns 0 rfl (ready_dep hi 0 (by kernel_rfl))) F0
                      have r0 : w'.cell? ⟨w.heap.size, 0, none⟩ = some _ := (hB.cell (p := ⟨w.heap.size, 0, none⟩) ylt).trans y0
                      refine wpOpT_of (fun K hK => ?_)
                      unfold wpOp
                      simp only [e0]
                      go_simp
                      refine Or.inl ?_
                      exact hK _ _ ⟨putT v 1 (.bool true), (by simp [putT, e0]), hS.step (Lz.mono FL) hL hi rfl (by decide) (Below.refl _ _) (Lz.toIs F1)⟩
                    · have hns := hS.open hL hi rfl
                      have hB := hS.a hns
                      have e1 := Lz.ofIs (hS.f hns 1 rfl (ready_dep hi 1 (by kernel_rfl))) F1
                      refine wpOpT_of (fun K hK => ?_)
                      unfold wpOp
                      simp only [e1]
                      go_simp
                      refine Or.inl ?_
                      exact hK _ _ ⟨putT v 2 (.bool false), (by simp [putT, e1]), hS.step (Lz.mono FL) hL hi rfl (by decide) (Below.refl _ _) (Lz.toIs F2)⟩
                    · have hns := hS.open hL hi rfl
                      have hB := hS.a hns
                      have e2 := Lz.ofIs (hS.f hns 2 rfl (ready_dep hi 2 (by kernel_rfl))) F2
                      refine wpOpT_of (fun K hK => ?_)
                      unfold wpOp
                      simp only [e2]
                      go_simp
                      refine Or.inl ?_
                      exact hK _ _ ⟨putT v 3 (.bool false), (by simp [putT, e2]), hS.step (Lz.mono FL) hL hi rfl (by decide) (Below.refl _ _) (Lz.toIs F3)⟩
                    · have hns := hS.open hL hi rfl
                      have hB := hS.a hns
                      have e3 := Lz.ofIs (hS.f hns 3 rfl (ready_dep hi 3 (by kernel_rfl))) F3
                      refine wpOpT_of (fun K hK => ?_)
                      unfold wpOp
                      simp only [e3]
                      go_simp
                      exact hK _ _ ⟨putT v 4 undef, (by simp [putT, e3]), hS.step (Lz.mono FL) hL hi rfl (by decide) (Below.refl _ _) (Lz.toTr F4)⟩
                    · have hns := hS.open hL hi rfl
                      have hB := hS.a hns
                      have e3 := Lz.ofIs (hS.f hns 3 rfl (ready_dep hi 3 (by kernel_rfl))) F3
                      refine wpOpT_of (fun K hK => ?_)
                      unfold wpOp
                      simp only [e3]
                      go_simp
                      exact hK _ _ ⟨putT v 5 undef, (by simp [putT, e3]), hS.step (Lz.mono FL) hL hi rfl (by decide) (Below.refl _ _) (Lz.toTr F5)⟩
                    · have hns := hS.open hL hi rfl
                      have hB := hS.a hns
                      have e3 := Lz.ofIs (hS.f hns 3 rfl (ready_dep hi 3 (by kernel_rfl))) F3
                      refine wpOpT_of (fun K hK => ?_)
                      unfold wpOp
                      simp only [e3]
                      go_simp
                      exact hK _ _ ⟨putT v 6 undef, (by simp [putT, e3]), hS.step (Lz.mono FL) hL hi rfl (by decide) (Below.refl _ _) (Lz.toTr F6)⟩
                    · have hns := hS.open hL hi rfl
                      have hB := hS.a hns
                      have e3 := Lz.ofIs (hS.f hns 3 rfl (ready_dep hi 3 (by kernel_rfl))) F3
                      refine wpOpT_of (fun K hK => ?_)
                      unfold wpOp
                      simp only [e3]
                      go_simp
                      exact hK _ _ ⟨putT v 7 undef, (by simp [putT, e3]), hS.step (Lz.mono FL) hL hi rfl (by decide) (Below.refl _ _) (Lz.toTr F7)⟩
                    · have hns := hS.open hL hi rfl
                      have hB := hS.a hns
                      have e3 := Lz.ofIs (hS.f hns 3 rfl (ready_dep hi 3 (by kernel_rfl))) F3
                      refine wpOpT_of (fun K hK => ?_)
                      unfold wpOp
                      simp only [e3]
                      go_simp
                      exact hK _ _ ⟨putT v 8 undef, (by simp [putT, e3]), hS.step (Lz.mono FL) hL hi rfl (by decide) (Below.refl _ _) (Lz.toTr F8)⟩
                    · have hns := hS.open hL hi rfl
                      have hB := hS.a hns
                      have e3 := Lz.ofIs (hS.f hns 3 rfl (ready_dep hi 3 (by kernel_rfl))) F3
                      refine wpOpT_of (fun K hK => ?_)
                      unfold wpOp
                      simp only [e3]
                      go_simp
                      refine Or.inl ?_
                      exact hK _ _ ⟨putT v 9 (.bool false), (by simp [putT, e3]), hS.step (Lz.mono FL) hL hi rfl (by decide) (Below.refl _ _) (Lz.toIs F9)⟩
                    · have hns := hS.open hL hi rfl
                      have hB := hS.a hns
                      have e9 := Lz.ofIs (hS.f hns 9 rfl (ready_dep hi 9 (by kernel_rfl))) F9
                      refine wpOpT_of (fun K hK => ?_)
                      unfold wpOp
                      simp only [e9]
                      go_simp
                      refine Or.inl ?_
                      exact hK _ _ ⟨putT v 10 (.bool false), (by simp [putT, e9]), hS.step (Lz.mono FL) hL hi rfl (by decide) (Below.refl _ _) (Lz.toIs F10)⟩
                  · intro L v w' hL hS hr
                    have on := all_done hL hr (by kernel_rfl)
                    have hns : ¬ On L 1011 := onT_over (by rw [hL]; exact Nat.le_of_ble_eq_true (by kernel_rfl))
                    have hB := hS.a hns
                    have e10 := Lz.ofIs (hS.f hns 10 rfl (on 10 (by decide))) F10
                    try dsimp only
                    rw [e10]
                    clear hS on hr hns
                    have hb4 := hb3.trans (hB.mono hb3.size)
                    go_wp2
                    go_ret
                    exact ⟨(by rw [HX]; rfl), hb4⟩
              · have ix : ((xs.length : Int) == 0) = false := by rw [beq_eq_false_iff_ne]; omega
                have gl' := gl.elim id (fun h => absurd h HT.1)
                have HF := HT.2.2 hx
                clear HT
                rw [← hcg.out] at HF
                subst HF
                go_wp2_with (first
                  | (go_at_call 49; refine (cg _ A13 A23).mono ?_; rintro e w2 ⟨go, gc, rfl, k3, b2⟩)
                  | (go_at_call 48; refine (co _).mono ?_; rintro e w3 ⟨oo, oc, rfl, k4, _, b3⟩; have k33 := k3.below b3)
                  | (go_at_call 47; refine (c1 _ _ _ _ _ gl' k33 k4).mono ?_; rintro e w4 ⟨rfl, b4⟩))
                go_ret
                exact ⟨rfl, hb3.trans (((b2.trans (b3.mono b2.size)).trans (b4.mono (b2.trans (b3.mono b2.size)).size)).mono hb3.size)⟩
end Go.Proofs.YtnclddfljghebaaGreatDoor
