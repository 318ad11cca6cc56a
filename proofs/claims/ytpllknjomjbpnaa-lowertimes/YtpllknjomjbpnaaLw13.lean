/- LowerFactors: Factor is the document's, of any matrix, and of that made symmetric. -/
import Derived.Test.YtpllknjomjbpnaaW7
namespace Go.Proofs.Ytpllknjomjbpnaa
open Go.RowKit

/-- What Factor answers, as lists. -/
def Key (r c : Int) (xs : List Nat) (er : Int) (row : Nat) (n : Int) (ls ds : List Nat) : Prop :=
  ∃ f d, Res r c xs er row f d ∧ (er ≠ 0 → n = 0 ∧ ls = [] ∧ ds = []) ∧ (er = 0 → ∃ N : Nat, r = N ∧ n = N ∧ ls.length = tri N ∧ ds.length = N ∧ (∀ i k, k < i → i < N → ls.getD (tri i + k) 0 = f i k) ∧ (∀ k, k < N → ds.getD k 0 = d k))
theorem ext_getD {l m : List Nat} (h : l.length = m.length) (g : ∀ k, k < l.length → l.getD k 0 = m.getD k 0) : l = m :=
  List.ext_getElem h fun i h1 h2 => by
    have := g i h1
    rw [getD_at h1, getD_at h2] at this
    exact this
theorem key_one {r c : Int} {xs : List Nat} {er er' : Int} {row row' : Nat} {n n' : Int} {ls ds ls' ds' : List Nat} (h : Key r c xs er row n ls ds) (g : Key r c xs er' row' n' ls' ds') : er = er' ∧ row = row' ∧ n = n' ∧ ls = ls' ∧ ds = ds' := by
  obtain ⟨f, d, h1, h2, h3⟩ := h
  obtain ⟨f', d', g1, g2, g3⟩ := g
  obtain ⟨e1, e2, e3⟩ := res_one h1 g1
  refine ⟨e1, e2, ?_⟩
  by_cases he : er = 0
  · obtain ⟨k1, k2⟩ := e3 he
    obtain ⟨N, hN, a1, a2, a3, a4, a5⟩ := h3 he
    obtain ⟨N', hN', b1, b2, b3, b4, b5⟩ := g3 (by rw [← e1]; exact he)
    have eN : N' = N := by omega
    subst eN
    have eT : r.toNat = N' := by omega
    rw [eT] at k1 k2
    refine ⟨by omega, ext_getD (by rw [a2, b2]) fun p hp => ?_, ext_getD (by rw [a3, b3]) fun k hk => ?_⟩
    · rw [a2] at hp
      obtain ⟨i, k, q1, q2, rfl⟩ := tri_sur hp
      rw [a4 i k q1 q2, b4 i k q1 q2, k1 k i q1 q2]
    · rw [a3] at hk
      rw [a5 k hk, b5 k hk, k2 k hk]
  · obtain ⟨a1, a2, a3⟩ := h2 he
    obtain ⟨b1, b2, b3⟩ := g2 (by rw [← e1]; exact he)
    exact ⟨by omega, by rw [a2, b2], by rw [a3, b3]⟩
def GaveQ (w : World) (r c : Int) (xs : List Nat) (e : Ending) (w' : World) : Prop :=
  ∃ (er : Int) (row : Nat) (n : Int) (ls ds : List Nat) (lo : Option Addr) (lc : Nat) (dO : Option Addr) (dc : Nat), e = .returned (.tuple #[fcV n lo ls.length lc dO ds.length dc, .int .i64 er, .int .i64 row]) ∧ GRow w' lo ls ∧ GRow w' dO ds ∧ FW ls ∧ FW ds ∧ ls.length ≤ 1200 ∧ ds.length ≤ 1200 ∧ ls.length ≤ lc ∧ ds.length ≤ dc ∧ lc ≤ 1200 ∧ dc ≤ 1200 ∧ Frs w.heap.size lo ∧ Frs w.heap.size dO ∧ Key r c xs er row n ls ds ∧ Below w.heap.size w w'
theorem gaveQ {w w' : World} {r c : Int} {xs : List Nat} {e : Ending} (h : GaveR w r c xs e w') : GaveQ w r c xs e w' := by
  obtain ⟨er, row, f, d, v, hR, rfl, hB, hv, h0⟩ := h
  by_cases he : er = 0
  · obtain ⟨_, N, hN, _, ls, ds, lo, lc, dO, dc, rfl, g1, g2, g3, g4, g5, g6, g7, g7', g8, g9, g10, g11, g12, g13⟩ := h0 he
    exact ⟨er, row, N, ls, ds, lo, lc, dO, dc, rfl, g1, g2, g3, g4, by omega, by omega, g7, g7', g8, g9, g10, g11, ⟨f, d, hR, fun h => absurd he h, fun _ => ⟨N, hN, rfl, g5, g6, g12, g13⟩⟩, hB⟩
  · rw [hv he]
    have z1 : GRow w' none ([] : List Nat) := Or.inl rfl
    have z2 : FW ([] : List Nat) := fun x hx => absurd hx List.not_mem_nil
    have z3 : Key r c xs er row 0 [] [] := ⟨f, d, hR, fun _ => ⟨rfl, rfl, rfl⟩, fun h => absurd h he⟩
    exact ⟨er, row, 0, [], [], none, 0, none, 0, rfl, z1, z1, z2, z2, Nat.zero_le _, Nat.zero_le _, Nat.zero_le _, Nat.zero_le _, Nat.zero_le _, Nat.zero_le _, Frs.none _, Frs.none _, z3, hB⟩
theorem sameL_me (l : List Nat) : sameL l l = true := sameL_yes rfl fun _ _ => sameB_me' _
set_option maxRecDepth 100000 in
set_option maxHeartbeats 4000000 in
theorem factors_law (r c : Int) (xs : List Nat) (ao : Option Addr) (cap : Nat) (w : World) (hr : GRow w ao xs) (hF : FW xs) (hn : xs.length ≤ 1125899906842624) :
    Calls Try.prog 3 #[mxV r c ao xs.length cap] w fun e w' => e = .returned (.bool true) ∧ Below w.heap.size w w' := by
  have M0 : B3 (w.alloc (.cells #[.int .i64 r, .int .i64 c, .slice ao xs.length cap] 24)) w.heap.size (.int .i64 r) (.int .i64 c) (.slice ao xs.length cap) := B3.new _ _ _ _ _
  have B0 := below_one w (.cells #[.int .i64 r, .int .i64 c, .slice ao xs.length cap] 24)
  go_enter Try.func3, Try.ntmps3
  go_wp2
  generalize w.alloc (.cells #[.int .i64 r, .int .i64 c, .slice ao xs.length cap] 24) = W0 at *
  go_loopg [3] 2 (fun gg s3 wr => ∃ (t : Nat) (r c : Int) (xs : List Nat) (ao : Option Addr) (cap : Nat), t ≤ 2 ∧ gg = 2 - t ∧ s3 = .int .i64 t ∧ B3 wr w.heap.size (.int .i64 r) (.int .i64 c) (.slice ao xs.length cap) ∧ GRow wr ao xs ∧ FW xs ∧ Hid (xs.length ≤ 1125899906842624) ∧ Below w.heap.size w wr)
  case atStart => exact ⟨0, r, c, xs, ao, cap, by omega, rfl, rfl, M0, hr.below B0, hF, hn, B0⟩
  case round =>
    clear M0 B0 hn hr hF
    obtain ⟨t, r, c, xs, ao, cap, ht, hg, rfl, MB, hr, hF, hn, HB⟩ := hrel
    have HG : Hid (gk = 2 - t) := hg
    clear hg
    by_cases hlt : (t : Int) < 2
    · have c1 := fun W h => (lfactor_any r c xs ao cap W h hF hn.out).mono fun e w' hh => gaveQ hh
      have c2 := fun W h => (rfactor_any r c xs ao cap W h hF).mono fun e w' hh => gaveQ hh
      have c3 := fun W h => lmir_any r c xs ao cap W h hF
      obtain ⟨m0, m1, m2, _⟩ := id MB
      go_upto_region 5 with (go_at_call 8; refine (c1 _ hr).mono ?_; rintro e w2 ⟨er, row, n, ls, ds, lo, lc, dO, dc, rfl, g1, g2, f1, f2, n1, n2, _, _, _, _, _, _, K1, b2⟩)
      have FB := B3.new w2 (.int .i64 n) (.slice lo ls.length lc) (.slice dO ds.length dc) 26
      have bV : Below wr.heap.size wr (w2.alloc (.cells #[.int .i64 n, .slice lo ls.length lc, .slice dO ds.length dc] 26)) := b2.trans ((below_one _ _).mono b2.size)
      replace g1 := g1.below (below_one w2 (.cells #[.int .i64 n, .slice lo ls.length lc, .slice dO ds.length dc] 26))
      replace g2 := g2.below (below_one w2 (.cells #[.int .i64 n, .slice lo ls.length lc, .slice dO ds.length dc] 26))
      generalize w2.alloc (.cells #[.int .i64 n, .slice lo ls.length lc, .slice dO ds.length dc] 26) = V2 at *
      generalize w2.heap.size = P1 at *
      replace MB := MB.below bV
      replace hr := hr.below bV
      replace HB := HB.trans (bV.mono HB.size)
      clear m0 m1 m2 b2 bV c1
      obtain ⟨m0, m1, m2, _⟩ := id MB
      go_upto_region 6 with (go_at_call 9; refine (c2 _ hr).mono ?_; rintro e w3 ⟨er2, row2, n', ls2, ds2, lo2, lc2, do2, dc2, rfl, k1, k2, _, _, _, _, _, _, _, _, _, _, K2, b3⟩; obtain ⟨rfl, rfl, rfl, rfl, rfl⟩ := key_one K1 K2)
      have GB := B3.new w3 (.int .i64 n) (.slice lo2 ls.length lc2) (.slice do2 ds.length dc2) 26
      have bV : Below V2.heap.size V2 (w3.alloc (.cells #[.int .i64 n, .slice lo2 ls.length lc2, .slice do2 ds.length dc2] 26)) := b3.trans ((below_one _ _).mono b3.size)
      replace k1 := k1.below (below_one w3 (.cells #[.int .i64 n, .slice lo2 ls.length lc2, .slice do2 ds.length dc2] 26))
      replace k2 := k2.below (below_one w3 (.cells #[.int .i64 n, .slice lo2 ls.length lc2, .slice do2 ds.length dc2] 26))
      generalize w3.alloc (.cells #[.int .i64 n, .slice lo2 ls.length lc2, .slice do2 ds.length dc2] 26) = V3 at *
      generalize w3.heap.size = P2 at *
      replace MB := MB.below bV
      replace hr := hr.below bV
      replace FB := FB.below bV
      replace g1 := g1.below bV
      replace g2 := g2.below bV
      replace HB := HB.trans (bV.mono HB.size)
      clear m0 m1 m2 b3 bV c2 K1 K2
      have c4 := fun W h1 h2 h3 h4 => sfac_any n ls ds ls ds lo dO lo2 do2 lc dc lc2 dc2 W h1 h2 h3 h4 f1 f2 f1 f2 n1 n2 n1 n2 (sameL_me _) (sameL_me _)
      have e1 : (er != er) = false := by simp
      have e2 : ((row : Int) != (row : Int)) = false := by simp
      obtain ⟨x0, x1, x2, _⟩ := id FB
      obtain ⟨y0, y1, y2, _⟩ := id GB
      go_upto_region 8 with (go_at_call 10; refine (c4 _ g1 g2 k1 k2).mono ?_; rintro e w4 ⟨rfl, b4⟩)
      replace MB := MB.below b4
      replace hr := hr.below b4
      replace HB := HB.trans (b4.mono HB.size)
      clear x0 x1 x2 y0 y1 y2 FB GB g1 g2 k1 k2 b4 c4 e1 e2
      obtain ⟨m0, m1, m2, _, _, _, _⟩ := id MB
      go_wp2_with (go_at_call 11; refine (c3 _ hr).mono ?_; rintro e w5 ⟨N5, ys, g5, rfl, h1, h2, h3, h4, h5, b5⟩; have H4 : Hid (ys.length = N5 * N5) := h4; clear h4; have MB5 := MB.below b5; obtain ⟨m0', m1', m2', s0, s1, s2, _⟩ := id MB5)
      have HB5 := HB.trans (b5.mono HB.size)
      have szm : w.heap.size < w4.heap.size := MB.2.2.2.2.2.2
      go_roundg (2 - (t + 1))
      case measure => rw [HG.out]; omega
      case rel => exact ⟨t + 1, N5, N5, ys, some ⟨g5, 0, none⟩, ys.length, by omega, rfl, by go_num, three_put' MB5 _ _ _, h1.boxed (n := w4.heap.size) (fun a e => by cases e; exact h5) szm _ _ _, h2, (show ys.length ≤ 1125899906842624 by rw [H4.out]; have := mul48 h3 h3; omega), set_three HB5 (Nat.le_refl _) _ _ _⟩
    · go_wp2_with (go_at_call 12; refine (lawake _).mono ?_; rintro e w9 ⟨rfl, b9⟩)
      go_ret
      exact ⟨rfl, HB.trans (b9.mono HB.size)⟩
theorem factors_row (r c : Int) (xs : List Nat) (ao : Option Addr) (cap : Nat) (w : World) (hr : GRow w ao xs) (hF : FW xs) (_ : ao = none → cap = 0 ∧ xs.length = 0) (h1 : xs.length ≤ cap) (h2 : cap ≤ 17592186044416) :
    Calls Try.prog 3 #[mxV r c ao xs.length cap] w fun e w' => e = .returned (.bool true) ∧ Below w.heap.size w w' := factors_law r c xs ao cap w hr hF (by omega)
end Go.Proofs.Ytpllknjomjbpnaa
