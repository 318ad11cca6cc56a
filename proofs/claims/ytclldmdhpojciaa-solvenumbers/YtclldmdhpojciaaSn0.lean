/- SolveNumbers: what its callees answer. -/
import Derived.Test.YtclldmdhpojciaaSol14
namespace Go.Proofs.Ytclldmdhpojciaa
open Go.RowKit

theorem half_s0 : opO .sub (some 0) (some 0) = some 0 := by kernel_rfl
theorem half_s1 : opO .sub (some 4607182418800017408) (some 0) = some 4607182418800017408 := by kernel_rfl
theorem half_sh : opO .sub (some 4602678819172646912) (some 0) = some 4602678819172646912 := by kernel_rfl
theorem half_m0 : opO .mul (some 0) (some 0) = some 0 := by kernel_rfl
theorem half_m1 : opO .mul (some 0) (some 4607182418800017408) = some 0 := by kernel_rfl
theorem half_mh : opO .mul (some 0) (some 4602678819172646912) = some 0 := by kernel_rfl
/-- All of L +0, all of D 2: the numbers are halved. -/
theorem half_les {s : Nat} (hs : s = 0 ∨ s = 4607182418800017408 ∨ s = 4602678819172646912) {a b : Nat → Option Nat} {n : Nat} (ha : ∀ k, k < n → a k = some 0) (hb : ∀ k, k < n → b k = some 0 ∨ b k = some 4607182418800017408 ∨ b k = some 4602678819172646912) : lesO (some s) a b n = some s := by
  induction n with
  | zero => rfl
  | succ k ih =>
    rw [lesO, ih (fun j hj => ha j (by omega)) (fun j hj => hb j (by omega)), ha k (by omega)]
    have e : opO .mul (some 0) (b k) = some 0 := by
      rcases hb k (by omega) with h | h | h <;> rw [h]
      · exact half_m0
      · exact half_m1
      · exact half_mh
    rw [e]
    rcases hs with rfl | rfl | rfl
    · exact half_s0
    · exact half_s1
    · exact half_sh
theorem half_fw {ls : List Nat} {N c : Nat} (hl : ls.length = tri N) (h0 : ∀ i, i < ls.length → ls.getD i 0 = 0) : ∀ i, i < N → fwO (lsF ls) (unO c) i = unO c i := by
  intro i
  induction i using Nat.strongRecOn with
  | _ i ih =>
    intro hi
    rw [fwO_eq]
    have hu : ∃ s, unO c i = some s ∧ (s = 0 ∨ s = 4607182418800017408 ∨ s = 4602678819172646912) := by
      unfold unO
      split
      · exact ⟨_, rfl, Or.inr (Or.inl rfl)⟩
      · exact ⟨_, rfl, Or.inl rfl⟩
    obtain ⟨s, e1, e2⟩ := hu
    rw [e1]
    refine half_les e2 (fun k hk => ?_) (fun k hk => ?_)
    · unfold lsF
      rw [h0 _ (by rw [hl]; exact tri_in hk hi)]
      rfl
    · rw [ih k hk (by omega)]
      unfold unO
      split
      · exact Or.inr (Or.inl rfl)
      · exact Or.inl rfl
theorem half_sl {ls ds : List Nat} {N c : Nat} (hl : ls.length = tri N) (h0 : ∀ i, i < ls.length → ls.getD i 0 = 0) (h2 : ∀ i, i < N → ds.getD i 0 = 4611686018427387904) : ∀ m i, i + m + 1 = N → slO ls ds N (unO c) i = if i = c then some 4602678819172646912 else some 0 := by
  intro m
  induction m using Nat.strongRecOn with
  | _ m ih =>
    intro i hi
    unfold slO
    rw [bkO_eq hi]
    have hq : ∃ s, qoO ds (fwO (lsF ls) (unO c)) i = some s ∧ s = (if i = c then 4602678819172646912 else 0) := by
      unfold qoO dsF
      rw [half_fw hl h0 i (by omega), h2 i (by omega)]
      unfold unO
      split
      · exact ⟨4602678819172646912, by kernel_rfl, rfl⟩
      · exact ⟨0, by kernel_rfl, rfl⟩
    obtain ⟨s, e1, e2⟩ := hq
    rw [e1]
    have e3 := half_les (s := s) (a := fun s => toO (lsF ls (i + 1 + s) i)) (b := fun s => bkO (lsF ls) (qoO ds (fwO (lsF ls) (unO c))) N (i + 1 + s)) (n := m) (by rw [e2]; split <;> simp) (fun k hk => by
        unfold lsF
        rw [h0 _ (by rw [hl]; exact tri_in (by omega) (by omega))]
        rfl) (fun k hk => by
        have := ih (N - (i + 1 + k) - 1) (by omega) (i + 1 + k) (by omega)
        unfold slO at this
        rw [this]
        split
        · exact Or.inr (Or.inr rfl)
        · exact Or.inl rfl)
    rw [e3, e2]
    split <;> rfl
theorem half_iv {ls ds : List Nat} (hl : ls.length = 1128) (hd : ds.length = 48) (h0 : ∀ i, i < 1128 → ls.getD i 0 = 0) (h2 : ∀ i, i < 48 → ds.getD i 0 = 4611686018427387904) : ∃ o : Nat → Nat → Option Nat, ivA 48 ls ds = ⟨48, 48, tabM 48 48 o, 0⟩ ∧ o 0 0 = some 4602678819172646912 ∧ o 47 47 = some 4602678819172646912 := by
  have ht : tri 48 = 1128 := by decide
  have hz : zL ds = false := zL_all fun i hi => by
    rw [h2 i (by omega)]
    kernel_rfl
  refine ⟨fun i j => slO ls ds 48 (unO j) i, ?_, ?_, ?_⟩
  · unfold ivA
    rw [hl, hd, hz, show rightF 48 1128 48 = true by decide]
    rfl
  · show slO ls ds 48 (unO 0) 0 = _
    rw [half_sl (c := 0) (by rw [hl, ht]) (fun i hi => h0 i (by omega)) h2 47 0 (by omega)]
    rfl
  · show slO ls ds 48 (unO 47) 47 = _
    rw [half_sl (c := 47) (by rw [hl, ht]) (fun i hi => h0 i (by omega)) h2 0 47 (by omega)]
    rfl
set_option maxHeartbeats 1000000 in
theorem sinv_bad (n : Int) (ln lc dn dc : Nat) (lo dO : Option Addr) (w : World) (q : rightF n ln dn = false) :
    Calls Try.prog 15 #[fcV n lo ln lc dO dn dc] w fun e w' => ∃ xo xc, e = .returned (.tuple #[mxV 0 0 xo 0 xc, .int .i64 4]) ∧ Below w.heap.size w w' := by
  have cr := fun W => lright_any n lo dO ln lc dn dc W
  have S0 := IvB.new w n lo ln lc dO dn dc
  rw [q] at cr
  go_enter Try.func15, Try.ntmps15
  go_wp2_with (go_at_call 42; refine (cr _).mono ?_; rintro e w1 ⟨rfl, b1⟩; have S1 := S0.later b1; obtain ⟨t0, t1, t2, s0, s1, s2, _⟩ := id S1.res)
  exact bodyPost_ret (v := .tuple #[mxV 0 0 none 0 0, .int .i64 4]) (by simp [results, Try.results15, go_sem, t0, t1, t2]) rfl ⟨_, _, rfl, set_three S1.below (by omega) _ _ _⟩
set_option maxHeartbeats 1000000 in
theorem one13_any (d : Nat) (w : World) : Calls Try.prog 9 #[.float .f64 d] w fun e w' => ∃ dO, e = .returned (fcV 1 none 0 0 dO 1 1) ∧ GRow w' dO [d] ∧ Below w.heap.size w w' := by
  go_enter Try.func9, Try.ntmps9
  go_wp2
  exact bodyPost_ret (v := fcV 1 none 0 0 (some ⟨w.heap.size + 1, 0, none⟩) 1 1) (by simp [results, Try.results9, go_sem]) rfl ⟨_, rfl, row_at (by go_simp) rfl, old_two (Below.refl _ _)⟩
set_option maxHeartbeats 400000 in
theorem num_nan (w : World) : Calls Try.prog 14 #[] w fun e w' => e = .returned (.float .f64 9221120237041090561) ∧ w' = w := by
  have ff := run_ffrom
  go_enter Try.func14, Try.ntmps14
  go_wp2
  go_ret
  exact ⟨rfl, rfl⟩
set_option maxHeartbeats 400000 in
theorem num_inf (w : World) : Calls Try.prog 13 #[.int .i64 1] w fun e w' => e = .returned (.float .f64 9218868437227405312) ∧ w' = w := by
  have ff := run_ffrom
  go_enter Try.func13, Try.ntmps13
  go_wp2
  go_ret
  exact ⟨rfl, rfl⟩
theorem num_neg (w : World) : Calls Try.prog 12 #[.float .f64 0, .float .f64 13830554455654793216] w fun e w' => e = .returned (.float .f64 9223372036854775808) ∧ w' = w := by
  have := copysign_any 0 13830554455654793216 (by decide) (by decide) w
  rw [show cpy 0 13830554455654793216 = 9223372036854775808 by kernel_rfl] at this
  exact this
/-- No numbers and an error. -/
def GvNo (w : World) (q : Int) (e : Ending) (w' : World) : Prop := ∃ xo xc, e = .returned (.tuple #[.slice xo 0 xc, .int .i64 q]) ∧ Below w.heap.size w w'
/-- One number. -/
def GvOne (w : World) (o : Option Nat) (e : Ending) (w' : World) : Prop := ∃ xo xc x, e = .returned (.tuple #[.slice xo 1 xc, .int .i64 0]) ∧ NR o x ∧ GRow w' xo [x] ∧ Below w.heap.size w w'
def GvMx (w : World) (q : Int) (e : Ending) (w' : World) : Prop := ∃ xo xc, e = .returned (.tuple #[mxV 0 0 xo 0 xc, .int .i64 q]) ∧ Below w.heap.size w w'
theorem gv_no {w w' : World} {q : Int} {e : Ending} (h : GaveLe w ([], q) e w') : GvNo w q e w' := by
  obtain ⟨_, rfl, xo, xc, xs, rfl, h1, _, _, _, h5⟩ := h
  have h2 : xs.length = 0 := h1.1
  rw [h2]
  exact ⟨xo, xc, rfl, h5⟩
theorem gv_one {w w' : World} {o : Option Nat} {e : Ending} (h : GaveLe w ([o], 0) e w') : GvOne w o e w' := by
  obtain ⟨_, rfl, xo, xc, xs, rfl, h1, h2, _, _, h5⟩ := h
  match xs, h1 with
  | [x], h1 => exact ⟨xo, xc, x, rfl, h1.2 0 (by simp), h2, h5⟩
theorem gv_mx {w w' : World} {q : Int} {e : Ending} (h : GaveA w (noA q) e w') : GvMx w q e w' := by
  obtain ⟨_, rfl, xo, xc, xs, rfl, h1, _, _, _, h5⟩ := h
  have h2 : xs.length = 0 := h1.1
  rw [h2]
  exact ⟨xo, xc, rfl, h5⟩
theorem num_a (dO bo : Option Addr) (w : World) (h : GRow w bo [4617315517961601024]) : Calls Try.prog 8 #[fcV 1 none 0 0 dO 1 1, .slice bo 1 1] w fun e w' => GvOne w (some 4617315517961601024) e w' := by
  have k := sforward_any 1 [] [4617315517961601024] none dO bo 0 1 1 1 (fun i => toO ([4617315517961601024].getD i 0)) w (Or.inl rfl) h (fw_lit _ (by decide)) (fun i hi => toO_NR ((fw_lit _ (by decide) : FW [4617315517961601024]).at hi))
  rw [show fwA 1 [] 1 [4617315517961601024].length (fun i => toO ([4617315517961601024].getD i 0)) = ([some 4617315517961601024], 0) by kernel_rfl] at k
  exact k.mono fun e w' g => gv_one g
theorem num_s (d b : Nat) (o : Option Nat) (hd : d < 18446744073709551616) (hb : b < 18446744073709551616) (dO bo : Option Addr) (w : World) (h1 : GRow w dO [d]) (h2 : GRow w bo [b]) (hA : slA 1 [] [d] 1 (fun i => toO ([b].getD i 0)) = ([o], 0)) : Calls Try.prog 10 #[fcV 1 none 0 0 dO 1 1, .slice bo 1 1] w fun e w' => GvOne w o e w' := by
  have f1 : FW [d] := fun x hx => by simp at hx; omega
  have f2 : FW [b] := fun x hx => by simp at hx; omega
  have k := ssolve_any 1 [] [d] [b] none dO bo 0 1 1 (fun i => toO ([b].getD i 0)) w (Or.inl rfl) h1 h2 (fw_lit _ (by decide)) f1 (fun i hi => toO_NR (f2.at hi))
  rw [show [b].length = 1 from rfl, hA] at k
  exact k.mono fun e w' g => gv_one g
theorem num_b (dO bo : Option Addr) (w : World) (h1 : GRow w dO [0]) (h2 : GRow w bo [4617315517961601024]) : Calls Try.prog 10 #[fcV 1 none 0 0 dO 1 1, .slice bo 1 1] w fun e w' => GvNo w 7 e w' := by
  have k := ssolve_any 1 [] [0] [4617315517961601024] none dO bo 0 1 1 (fun i => toO ([4617315517961601024].getD i 0)) w (Or.inl rfl) h1 h2 (fw_lit _ (by decide)) (fw_lit _ (by decide)) (fun i hi => toO_NR ((fw_lit _ (by decide) : FW [4617315517961601024]).at hi))
  rw [show slA 1 [] [0] [4617315517961601024].length (fun i => toO ([4617315517961601024].getD i 0)) = ([], 7) by kernel_rfl] at k
  exact k.mono fun e w' g => gv_no g
theorem num_c (dO bo : Option Addr) (w : World) (h1 : GRow w dO [9223372036854775808]) (h2 : GRow w bo [4617315517961601024]) : Calls Try.prog 11 #[fcV 1 none 0 0 dO 1 1, .slice bo 1 1] w fun e w' => GvNo w 7 e w' := by
  have k := sback_any 1 [] [9223372036854775808] [4617315517961601024] none dO bo 0 1 1 (fun i => toO ([4617315517961601024].getD i 0)) w (Or.inl rfl) h1 h2 (fw_lit _ (by decide)) (fw_lit _ (by decide)) (fun i hi => toO_NR ((fw_lit _ (by decide) : FW [4617315517961601024]).at hi))
  rw [show bkA 1 [] [9223372036854775808] [4617315517961601024].length (fun i => toO ([4617315517961601024].getD i 0)) = ([], 7) by kernel_rfl] at k
  exact k.mono fun e w' g => gv_no g
theorem num_k (dO bo : Option Addr) (w : World) (h1 : GRow w dO [4607182418800017408]) (h2 : GRow w bo [4617315517961601024, 4617315517961601024]) : Calls Try.prog 10 #[fcV 1 none 0 0 dO 1 1, .slice bo 2 2] w fun e w' => GvNo w 4 e w' := by
  have k := ssolve_any 1 [] [4607182418800017408] [4617315517961601024, 4617315517961601024] none dO bo 0 1 2 (fun i => toO ([4617315517961601024, 4617315517961601024].getD i 0)) w (Or.inl rfl) h1 h2 (fw_lit _ (by decide)) (fw_lit _ (by decide)) (fun i hi => toO_NR ((fw_lit _ (by decide) : FW [4617315517961601024, 4617315517961601024]).at hi))
  rw [show slA 1 [] [4607182418800017408] [4617315517961601024, 4617315517961601024].length (fun i => toO ([4617315517961601024, 4617315517961601024].getD i 0)) = ([], 4) by kernel_rfl] at k
  exact k.mono fun e w' g => gv_no g
theorem num_m (dO bo : Option Addr) (w : World) (h2 : GRow w bo [4617315517961601024, 4617315517961601024]) : Calls Try.prog 8 #[fcV 2 none 0 0 dO 2 2, .slice bo 2 2] w fun e w' => GvNo w 4 e w' := by
  have k := sforward_any 2 [] [4617315517961601024, 4617315517961601024] none dO bo 0 2 2 2 (fun i => toO ([4617315517961601024, 4617315517961601024].getD i 0)) w (Or.inl rfl) h2 (fw_lit _ (by decide)) (fun i hi => toO_NR ((fw_lit _ (by decide) : FW [4617315517961601024, 4617315517961601024]).at hi))
  rw [show fwA 2 [] 2 [4617315517961601024, 4617315517961601024].length (fun i => toO ([4617315517961601024, 4617315517961601024].getD i 0)) = ([], 4) by kernel_rfl] at k
  exact k.mono fun e w' g => gv_no g
theorem num_o (n q : Int) (hA : slA n [] [] 0 (fun _ => none) = ([], q)) (w : World) : Calls Try.prog 10 #[fcV n none 0 0 none 0 0, .slice none 0 0] w fun e w' => GvNo w q e w' := by
  have k := ssolve_any n [] [] [] none none none 0 0 0 (fun _ => none) w (Or.inl rfl) (Or.inl rfl) (Or.inl rfl) (fw_lit _ (by decide)) (fw_lit _ (by decide)) (fun i hi => by simp at hi)
  rw [show ([] : List Nat).length = 0 from rfl, hA] at k
  exact k.mono fun e w' g => gv_no g
theorem num_q (w : World) : Calls Try.prog 15 #[fcV 0 none 0 0 none 0 0] w fun e w' => GvMx w 0 e w' := by
  have k := sinverse_any 0 [] [] none none 0 0 w (Or.inl rfl) (Or.inl rfl) (fw_lit _ (by decide)) (fw_lit _ (by decide))
  rw [show ivA 0 [] [] = noA 0 by kernel_rfl] at k
  exact k.mono fun e w' g => gv_mx g
theorem num_i (dO : Option Addr) (w : World) (h : GRow w dO [0]) : Calls Try.prog 15 #[fcV 1 none 0 0 dO 1 1] w fun e w' => GvMx w 7 e w' := by
  have k := sinverse_any 1 [] [0] none dO 0 1 w (Or.inl rfl) h (fw_lit _ (by decide)) (fw_lit _ (by decide))
  rw [show ivA 1 [] [0] = noA 7 by kernel_rfl] at k
  exact k.mono fun e w' g => gv_mx g
theorem num_v (lo dO : Option Addr) (w : World) : Calls Try.prog 15 #[fcV 49 lo 1176 1176 dO 49 49] w fun e w' => GvMx w 4 e w' :=
  (sinv_bad 49 1176 1176 49 49 lo dO w (by decide)).mono fun e w' g => g
/-- What is told of one number, and of none. -/
theorem num_is1 (o : Option Nat) (x y : Nat) (hx : NR o x) (hy : NR o y) (xo yo : Option Addr) (xc : Nat) (w : World) (h1 : GRow w xo [x]) (h2 : GRow w yo [y]) : Calls Try.prog 16 #[.slice xo 1 xc, .int .i64 0, .slice yo 1 1, .int .i64 0] w fun e w' => e = .returned (.bool true) ∧ Below w.heap.size w w' := by
  have f1 : FW [x] := fun z hz => by simp at hz; rw [hz]; exact hx.1
  have f2 : FW [y] := fun z hz => by simp at hz; rw [hz]; exact hy.1
  exact is13_any 0 [x] [y] xo yo xc 1 w h1 h2 f1 f2 (by simp) (by simp) (sameL_yes rfl (fun j hj => by
    have : j = 0 := by simp at hj; omega
    subst this
    exact NR_sameB hx hy))
theorem num_is0 (q : Int) (xo : Option Addr) (xc : Nat) (w : World) : Calls Try.prog 16 #[.slice xo 0 xc, .int .i64 q, .slice none 0 0, .int .i64 q] w fun e w' => e = .returned (.bool true) ∧ Below w.heap.size w w' :=
  is13_any q [] [] xo none xc 0 w (Or.inl rfl) (Or.inl rfl) (fw_lit _ (by decide)) (fw_lit _ (by decide)) (by decide) (by decide) (by kernel_rfl)
theorem num_sm (xo : Option Addr) (xc : Nat) (w : World) : Calls Try.prog 17 #[mxV 0 0 xo 0 xc, mxV 0 0 none 0 0] w fun e w' => e = .returned (.bool true) ∧ Below w.heap.size w w' := by
  have h := ksame_any 0 0 [] 0 0 [] xo none xc 0 w (Or.inl rfl) (Or.inl rfl) (fw_lit _ (by decide)) (fw_lit _ (by decide)) (by decide) (by decide)
  rw [show sameM 0 0 [] 0 0 [] = true by kernel_rfl] at h
  exact h
theorem en_nr {R C : Nat} {o : Nat → Nat → Option Nat} {xs : List Nat} (h : LN (tabM R C o) xs) {i j : Nat} (hi : i < R) (hj : j < C) : NR (o i j) (xs.getD (i * C + j) 0) := by
  have := h.2 (i * C + j) (by rw [tabM_len]; exact at_lt hi hj)
  rw [tabM_at hi hj] at this
  exact this
theorem gv_sq {w w' : World} {N NN : Nat} {n : Int} {o : Nat → Nat → Option Nat} {e : Ending} (hN : N * N = NN) (h : GaveA w ⟨n, n, tabM N N o, 0⟩ e w') : ∃ xo xc xs, e = .returned (.tuple #[mxV n n xo NN xc, .int .i64 0]) ∧ xs.length = NN ∧ (∀ i j, i < N → j < N → NR (o i j) (xs.getD (i * N + j) 0)) ∧ GRow w' xo xs ∧ Below w.heap.size w w' := by
  obtain ⟨_, rfl, xo, xc, xs, rfl, h1, h2, _, _, h5⟩ := h
  have h3 : xs.length = NN := by rw [h1.1, tabM_len, hN]
  exact ⟨xo, xc, xs, by rw [h3], h3, fun i j hi hj => en_nr h1 hi hj, h2, h5⟩
/-- Two of its numbers. -/
def GvFar (w : World) (e : Ending) (w' : World) : Prop := ∃ xo xc xs, e = .returned (.tuple #[mxV 48 48 xo 2304 xc, .int .i64 0]) ∧ xs.length = 2304 ∧ xs.getD 0 0 = 4602678819172646912 ∧ xs.getD 2303 0 = 4602678819172646912 ∧ GRow w' xo xs ∧ Below w.heap.size w w'
theorem gv_far {w w' : World} {N NN : Nat} {o : Nat → Nat → Option Nat} {e : Ending} (hN : N = 48) (hNN : NN = 2304) (h : ∃ xo xc xs, e = .returned (.tuple #[mxV 48 48 xo NN xc, .int .i64 0]) ∧ xs.length = NN ∧ (∀ i j, i < N → j < N → NR (o i j) (xs.getD (i * N + j) 0)) ∧ GRow w' xo xs ∧ Below w.heap.size w w') (e2 : o 0 0 = some 4602678819172646912) (e3 : o 47 47 = some 4602678819172646912) : GvFar w e w' := by
  obtain ⟨xo, xc, xs, rfl, h1, h2, h3, h4⟩ := h
  have a1 := h2 0 0 (by omega) (by omega)
  have a2 := h2 47 47 (by omega) (by omega)
  rw [e2, show 0 * N + 0 = 0 by omega] at a1
  rw [e3, show 47 * N + 47 = 2303 by omega] at a2
  subst hNN
  exact ⟨xo, xc, xs, rfl, h1, a1.2, a2.2, h3, h4⟩
theorem made_obj (n : Nat) (hn : n ≤ 5000) : ∃ o : Obj, (∀ W : World, (Instr.makeSlice 22 (.int .i64 (n : Int)) (.int .i64 (n : Int))).run Try.prog W = .ok (.slice (some ⟨W.heap.size, 0, none⟩) n n) (W.alloc o)) ∧ ∀ W : World, RRow (W.alloc o) W.heap.size n (fun _ => 0) :=
  ⟨.cells (madeCells #[.float .f64 0] n) 29, fun W => run_make_row' (P := Try.prog) 22 29 (.float .f64 0) 8 Try.underlying22 Try.infoF rfl .i64 .i64 n (by omega) (by omega) W, fun W => RRow.made W n⟩
/-- The inverse of 48 twos. -/
theorem num_far (ls ds : List Nat) (lo dO : Option Addr) (hl : ls.length = 1128) (hd : ds.length = 48) (h0 : ∀ i, i < 1128 → ls.getD i 0 = 0) (h2 : ∀ i, i < 48 → ds.getD i 0 = 4611686018427387904) (w : World) (hL : GRow w lo ls) (hD : GRow w dO ds) (fL : FW ls) (fD : FW ds) :
    Calls Try.prog 15 #[fcV 48 lo 1128 1128 dO 48 48] w fun e w' => GvFar w e w' := by
  obtain ⟨o, e1, e2, e3⟩ := half_iv hl hd h0 h2
  have k := sinverse_any 48 ls ds lo dO 1128 48 w hL hD fL fD
  rw [hl, hd, e1] at k
  exact k.mono fun e w' g => gv_far (N := 48) (NN := 2304) rfl rfl (gv_sq (by decide) g) e2 e3
end Go.Proofs.Ytclldmdhpojciaa
