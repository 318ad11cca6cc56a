/- What takeTimes answers; addTimes, with what stays. -/
import Derived.Test.YtmcnnnmlacpppaaDoorRt2
namespace Go.Proofs.YtmcnnnmlacpppaaDoor
open Go.RowKit

/-- A row taken off so far. -/
def TakR (fo : Nat → Nat) (X : Nat → Nat) (b k : Nat) (out : List Nat) (c : Nat) : Prop := Lm out ∧ out.length = k ∧ c < 18446744073709551616 ∧ Took (vF k fo) (X k) b (2 ^ (64 * k)) (vl out) c
theorem takR_nil (fo X : Nat → Nat) (b : Nat) (h : X 0 = 0) : TakR fo X b 0 [] 0 := ⟨fun x hx => by simp at hx, rfl, by omega, by unfold Took; rw [h]; simp [vF, vl]⟩
theorem takR_step {fo X : Nat → Nat} {b k c x l h s d : Nat} {out : List Nat} (hR : TakR fo X b k out c) (hX : X (k + 1) = X k + 2 ^ (64 * k) * x) (hs : s < 18446744073709551616) (hp : x * b + c = l + 18446744073709551616 * h) (he : s + l = fo k + 18446744073709551616 * d) (hc : h + d < 18446744073709551616) :
    TakR fo X b (k + 1) (out ++ [s]) (h + d) := by
  obtain ⟨h1, h2, _, h4⟩ := hR
  refine ⟨h1.snoc hs, by simp [h2], hc, ?_⟩
  rw [vl_append, h2, pow64_succ, vF, hX]
  have := took_step h4 hp he
  simpa [vl] using this
theorem takR_over {fo X : Nat → Nat} {b k c s d : Nat} {out : List Nat} (hR : TakR fo X b k out c) (hX : X (k + 1) = X k) (hs : s < 18446744073709551616) (he : s + c = fo k + 18446744073709551616 * d) (hc : d < 18446744073709551616) :
    TakR fo X b (k + 1) (out ++ [s]) d := by
  obtain ⟨h1, h2, _, h4⟩ := hR
  refine ⟨h1.snoc hs, by simp [h2], hc, ?_⟩
  rw [vl_append, h2, pow64_succ, vF, hX]
  have := took_over h4 he
  simpa [vl] using this
theorem sub64_ex (x y : Int) (x0 : 0 ≤ x) (x1 : x < 18446744073709551616) (y0 : 0 ≤ y) (y1 : y < 18446744073709551616) :
    ∃ s d : Nat, s < 18446744073709551616 ∧ d ≤ 1 ∧ (s : Int) + y = x + 18446744073709551616 * d ∧ (d = if x < y then 1 else 0) ∧ ∀ w, (callFunc 79 #[.int .u64 x, .int .u64 y, .int .u64 0]).run Tryd.prog w = .ok (.value (.tuple #[.int .u64 s, .int .u64 d])) w := by
  obtain ⟨a, rfl⟩ : ∃ a : Nat, x = a := ⟨x.toNat, by omega⟩
  obtain ⟨b, rfl⟩ : ∃ b : Nat, y = b := ⟨y.toNat, by omega⟩
  refine ⟨(a + 18446744073709551616 - b - 0) % 18446744073709551616, if a < b + 0 then 1 else 0, Nat.mod_lt _ (by omega), by split <;> omega, by split <;> omega, ?_, fun w => sub64_run a b 0 (by omega) w⟩
  by_cases h : a < b
  · rw [if_pos (by omega), if_pos (by omega)]
  · rw [if_neg (by omega), if_neg (by omega)]
/-- What takeTimes leaves. -/
def GaveT (w : World) (g L : Nat) (f : Nat → Nat) (off m X b : Nat) (e : Ending) (w' : World) : Prop :=
  ∃ out c, e = .returned (.int .u64 ((c : Nat) : Int)) ∧ Lm out ∧ out.length = m ∧ c ≤ 1 ∧ vl out + X * b = vF m (fun j => f (off + j)) + 2 ^ (64 * m) * c ∧ FRow w' g L (laidF f off m out) ∧ Keep g w w'

set_option maxRecDepth 100000 in
set_option maxHeartbeats 1000000 in
theorem takeTimes_any (g L off m b cap capT : Nat) (f : Nat → Nat) (xs : List Nat) (ao : Option Addr) (w : World) (hrow : FRow w g L f) (hf : ∀ j, j < m → f (off + j) < 18446744073709551616) (hr : LRow w ao xs) (ha : Apt g ao) (hL : Lm xs)
    (hm : xs.length < m) (hoff : off + m ≤ L) (hn : m ≤ 200000) (hb : b < 18446744073709551616) (hct : m ≤ capT) :
    Calls Tryd.prog 84 #[.slice (some ⟨g, off, none⟩) m capT, .slice ao xs.length cap, .int .u64 b] w (GaveT w g L f off m (vl xs) b) := by
  have HF : Hid (∀ j, j < m → f (off + j) < 18446744073709551616) := hf
  have HX0 : Hid (∀ k, k < xs.length → vl (xs.take (k + 1)) = vl (xs.take k) + 2 ^ (64 * k) * xs.getD k 0) := fun k hk => vl_take_succ hk
  have HX1 : Hid (∀ k, xs.length ≤ k → vl (xs.take (k + 1)) = vl (xs.take k)) := fun k hk => by rw [List.take_of_length_le (by omega), List.take_of_length_le hk]
  have HXe : Hid (vl (xs.take m) = vl xs) := (show _ = _ by rw [List.take_of_length_le (by omega)])
  clear hf
  have i1 : (xs.length : Int) ≤ (capT : Int) := by omega
  have i2 : (xs.length : Int) ≤ (m : Int) := by omega
  have i3 : (m : Int) ≤ (capT : Int) := by omega
  have i4 : ¬ capT = xs.length := by omega
  have i5 : ((m : Int) - (xs.length : Int)).toNat = m - xs.length := by omega
  go_enter Tryd.func84, Tryd.ntmps84
  go_upto_region 2 with fail
  go_quiet (fail)
  have hrow := (Alike.drewN nq).frow hrow
  have hkp := (Alike.drewN (w := w) nq).keep g
  generalize w.drewN nq = w1 at *
  go_wp2
  clear i1 i3 i4 i5
  go_loopg [7, 25] xs.length (fun gg cv i wr => ∃ (k : Nat) (out : List Nat) (c : Nat), k ≤ xs.length ∧ gg = xs.length - k ∧ i = .int .i64 k ∧ cv = .int .u64 c ∧ Hid (TakR (fun j => f (off + j)) (fun k => vl (xs.take k)) b k out c) ∧ FRow wr g L (laidF f off k out) ∧ Keep g w wr)
  case atStart => exact ⟨0, [], 0, Nat.zero_le _, rfl, rfl, rfl, takR_nil _ _ _ (by simp [vl]), hrow.congr (fun j _ => (laidF_zero f off [] j).symm), hkp⟩
  case round =>
    obtain ⟨k, out, c, hk, hg, rfl, rfl, hR, hrw, hkw⟩ := hrel
    clear hrow hkp
    have kc : c < 18446744073709551616 := hR.out.2.2.1
    have hol : out.length = k := hR.out.2.1
    by_cases hlt : k < xs.length
    · rcases hkw.lrow hr ha with h | ⟨bx, ox, rfl, hc⟩
      · omega
      · have g1 := hc k hlt
        have kx := hL.getD k
        have ky := HF.out k (by omega)
        have g2 : wr.cell? ⟨g, off + k, none⟩ = some (.int .u64 ((laidF f off k out (off + k) : Nat) : Int)) := World.rowIs.cell hrw (by omega)
        have g3 := World.rowIs.frozen hrw (off + k)
        have e2 : laidF f off k out (off + k) = f (off + k) := by unfold laidF; rw [if_neg (by omega)]
        rw [e2] at g2
        have HXk := HX0.out k hlt
        obtain ⟨x, hx⟩ : ∃ x, xs.getD k 0 = x := ⟨_, rfl⟩
        obtain ⟨y, hy⟩ : ∃ y, f (off + k) = y := ⟨_, rfl⟩
        rw [hx] at g1 kx HXk
        rw [hy] at g2 ky
        have hm' := mul64_any (x : Int) (b : Int) (by omega) (by omega) (by omega) (by omega) wr
        have p0 : 0 ≤ (x : Int) * b := Int.mul_nonneg (by omega) (by omega)
        have p1 : (x : Int) * b ≤ 18446744073709551615 * 18446744073709551615 := Int.mul_le_mul (by omega) (by omega) (by omega) (by omega)
        obtain ⟨P, hP⟩ : ∃ P, x * b + c = P := ⟨_, rfl⟩
        have hPI : (x : Int) * b + c = (P : Int) := by rw [← hP, Int.natCast_add, Int.natCast_mul]
        have hcar := took_carry (l := P % 18446744073709551616) (h := P / 18446744073709551616) (t := y) kx hb kc (by rw [hP]; omega) (Nat.mod_lt _ (by omega))
        generalize (x : Int) * (b : Int) = p at *
        obtain ⟨s, d, s1, d1, sd, dd, hsub⟩ := sub64_ex (y : Int) ((p + c) % 18446744073709551616) (by omega) (by omega) (by omega) (by omega)
        have dN : d = if y < P % 18446744073709551616 then 1 else 0 := by
          rw [dd]
          by_cases h : y < P % 18446744073709551616
          · rw [if_pos h, if_pos (by omega)]
          · rw [if_neg h, if_neg (by omega)]
        rw [← dN] at hcar
        have HS : Hid (TakR (fun j => f (off + j)) (fun k => vl (xs.take k)) b (k + 1) (out ++ [s]) (P / 18446744073709551616 + d)) := takR_step (l := P % 18446744073709551616) hR.out HXk s1 (by rw [hP]; omega) (by rw [hy]; omega) hcar
        have HV : Hid (((P / 18446744073709551616 + d : Nat) : Int) = p / 18446744073709551616 + (p % 18446744073709551616 + c) / 18446744073709551616 + d) := (show _ = _ by omega)
        have ha1 := fun w => add64_0 (p % 18446744073709551616) (c : Int) (by omega) (by omega) w
        have ha3 := fun w => add64_up (p / 18446744073709551616) ((p % 18446744073709551616 + c) / 18446744073709551616) (by omega) (by omega) (by omega) (by omega) w
        have ha4 := fun w => add64_up (p / 18446744073709551616 + (p % 18446744073709551616 + c) / 18446744073709551616) (d : Int) (by omega) (by omega) (by omega) (by omega) w
        have hset := hrw.set (off + k) s
        have hks := fun v => hkw.setCell (off + k) (.int .u64 v)
        clear hc hr hx hy hrw hkw e2 hR HF HX0 HX1 HXe hP hPI hcar dN dd sd HXk
        go_wp2_with (go_at_call 89; refine hm'.mono ?_; rintro e w' ⟨rfl, hww⟩; subst hww)
        go_roundg (xs.length - (k + 1))
        case measure => omega
        case rel =>
          refine ⟨k + 1, _, _, by omega, rfl, by go_num, ?_, HS, hset.congr (fun j _ => laidF_snoc hol _ j), hks _⟩
          rw [HV.out]
    · have hkk : k = xs.length := by omega
      subst hkk
      clear hg hlt hk
      go_wp2
      have i6 : ((m : Int) - (xs.length : Int)) = ((m - xs.length : Nat) : Int) := by omega
      go_loopg [7, 70] (m - xs.length) (fun gg cv i wr => ∃ (k : Nat) (out : List Nat) (c : Nat), k ≤ m - xs.length ∧ gg = m - xs.length - k ∧ i = .int .i64 k ∧ cv = .int .u64 c ∧ (0 < k → c ≤ 1) ∧ Hid (TakR (fun j => f (off + j)) (fun k => vl (xs.take k)) b (xs.length + k) out c) ∧ FRow wr g L (laidF f off (xs.length + k) out) ∧ Keep g w wr)
      case atStart => exact ⟨0, out, c, Nat.zero_le _, rfl, rfl, rfl, fun h => by omega, hR, hrw, hkw⟩
      case round =>
        clear hR hrw hkw hol kc
        obtain ⟨k, out, c, hk, hg, rfl, rfl, hc1, hR, hrw, hkw⟩ := hrel
        have kc : c < 18446744073709551616 := hR.out.2.2.1
        have hol : out.length = xs.length + k := hR.out.2.1
        by_cases hlt : k < m - xs.length
        · have ky := HF.out (xs.length + k) (by omega)
          have g2 : wr.cell? ⟨g, off + (xs.length + k), none⟩ = some (.int .u64 ((laidF f off (xs.length + k) out (off + (xs.length + k)) : Nat) : Int)) := World.rowIs.cell hrw (by omega)
          have g3 := World.rowIs.frozen hrw (off + (xs.length + k))
          have e2 : laidF f off (xs.length + k) out (off + (xs.length + k)) = f (off + (xs.length + k)) := by unfold laidF; rw [if_neg (by omega)]
          rw [e2] at g2
          have HXk := HX1.out (xs.length + k) (by omega)
          obtain ⟨y, hy⟩ : ∃ y, f (off + (xs.length + k)) = y := ⟨_, rfl⟩
          rw [hy] at g2 ky
          rw [← Nat.add_assoc] at g2 g3
          obtain ⟨s, d, s1, d1, sd, dd, hsub⟩ := sub64_ex (y : Int) (c : Int) (by omega) (by omega) (by omega) (by omega)
          have HS : Hid (TakR (fun j => f (off + j)) (fun k => vl (xs.take k)) b (xs.length + (k + 1)) (out ++ [s]) d) := takR_over (k := xs.length + k) hR.out HXk s1 (by show s + c = f (off + (xs.length + k)) + _; rw [hy]; omega) (by omega)
          have hset := hrw.set (off + (xs.length + k)) s
          have hks := fun v => hkw.setCell (off + (xs.length + k)) (.int .u64 v)
          rw [← Nat.add_assoc] at hset hks
          have j1 : (k : Int) < ((m - xs.length : Nat) : Int) := by omega
          clear hr hy hrw hkw e2 hR HF HX0 HX1 HXe dd sd HXk hc1
          go_wp2
          go_roundg (m - xs.length - (k + 1))
          case measure => omega
          case rel =>
            refine ⟨k + 1, _, _, by omega, rfl, by go_num, rfl, fun _ => d1, HS, hset.congr (fun j _ => ?_), hks _⟩
            rw [Nat.add_assoc]
            exact laidF_snoc hol _ j
        · have hkk : xs.length + k = m := by omega
          have hc2 := hc1 (by omega)
          have hT := hR.out.2.2.2
          have hL2 := hR.out.1
          have HG : Hid (vl out + vl xs * b = vF m (fun j => f (off + j)) + 2 ^ (64 * m) * c) := (show _ = _ by
            have h1 : vl out + vl (xs.take m) * b = vF m (fun j => f (off + j)) + 2 ^ (64 * m) * c := by
              have h2 := hT
              unfold Took at h2
              rw [hkk] at h2
              exact h2
            rw [HXe.out] at h1
            exact h1)
          rw [hkk] at hrw hol
          have j1 : ¬ (k : Int) < ((m - xs.length : Nat) : Int) := by omega
          clear hT hR
          go_wp2
          go_ret
          exact ⟨out, c, rfl, hL2, hol, hc2, HG.out, hrw, hkw⟩
/-- The answer of addTimes: the limbs laid down, what is carried; nothing else has turned. -/
def GaveK (w : World) (g L : Nat) (f : Nat → Nat) (off : Nat) (t xs : List Nat) (b : Nat) (e : Ending) (w' : World) : Prop :=
  ∃ out c : _, e = .returned (.int .u64 ((c : Nat) : Int)) ∧ Rowed t xs b xs.length out c ∧ FRow w' g L (laidF f off xs.length out) ∧ Keep g w w'
set_option maxHeartbeats 1000000 in
theorem addTimesK_any (w : World) (xs t : List Nat) (ao : Option Addr) (cap capT g L off b : Nat) (f : Nat → Nat) (hr : LRow w ao xs) (ha : Apt g ao) (hrow : FRow w g L f)
    (hL : Lm xs) (ht : Lm t) (htl : t.length = xs.length) (htf : ∀ j, j < xs.length → f (off + j) = t.getD j 0) (hoff : off + xs.length ≤ L) (hn : xs.length ≤ 100000) (hbv : b < 18446744073709551616) (hct : xs.length ≤ capT) (hct0 : capT ≠ 0) :
    Calls Tryd.prog 72 #[.slice (some ⟨g, off, none⟩) xs.length capT, .slice ao xs.length cap, .int .u64 b] w (GaveK w g L f off t xs b) := by
  have hb := Keep.refl g w
  have HF : Hid (∀ j, j < xs.length → f (off + j) = t.getD j 0) := htf
  clear htf
  go_enter Tryd.func72, Tryd.ntmps72
  go_wp2
  go_loopg [18, 7] xs.length (fun gg i cv wr => ∃ (k : Nat) (out : List Nat) (c : Nat), k ≤ xs.length ∧ gg = xs.length - k ∧ i = .int .i64 k ∧ cv = .int .u64 c ∧ Hid (Rowed t xs b k out c) ∧ FRow wr g L (laidF f off k out) ∧ Keep g w wr)
  case atStart => exact ⟨0, [], 0, Nat.zero_le _, rfl, rfl, rfl, rowed_nil _ _ _, hrow.congr (fun j _ => (laidF_zero f off [] j).symm), hb⟩
  case round =>
    obtain ⟨k, out, c, hk, hg, rfl, rfl, hR, hrw, hbw⟩ := hrel
    clear hrow hb
    by_cases hlt : k < xs.length
    · have hrx := hbw.lrow hr ha
      rcases hrx with h | ⟨bx, ox, rfl, hc⟩
      · omega
      · have g1 := hc k hlt
        have kx := hL.getD k
        have ky := ht.getD k
        have kc : c < 18446744073709551616 := hR.out.2.2.1
        have g2 : wr.cell? ⟨g, off + k, none⟩ = some (.int .u64 ((laidF f off k out (off + k) : Nat) : Int)) := World.rowIs.cell hrw (by omega)
        have g3 := World.rowIs.frozen hrw (off + k)
        have e2 : laidF f off k out (off + k) = t.getD k 0 := by unfold laidF; rw [if_neg (by omega)]; exact HF.out k hlt
        rw [e2] at g2
        have HS : Hid (Rowed t xs b (k + 1) (out ++ [(xs.getD k 0 * b + t.getD k 0 + c) % 18446744073709551616]) ((xs.getD k 0 * b + t.getD k 0 + c) / 18446744073709551616)) := rowed_step hR.out ht hL hbv hlt (by omega)
        have hol : out.length = k := hR.out.2.1
        obtain ⟨x, hx⟩ : ∃ x, xs.getD k 0 = x := ⟨_, rfl⟩
        obtain ⟨y, hy⟩ : ∃ y, t.getD k 0 = y := ⟨_, rfl⟩
        rw [hx, hy] at HS
        rw [hx] at g1 kx
        rw [hy] at g2 ky
        have hm := mul64_any (x : Int) (b : Int) (by omega) (by omega) (by omega) (by omega) wr
        have p0 : 0 ≤ (x : Int) * b := Int.mul_nonneg (by omega) (by omega)
        have ev : ((((x * b + y + c) % 18446744073709551616 : Nat)) : Int) = ((x : Int) * b + y + c) % 18446744073709551616 := by rw [Int.natCast_emod, Int.natCast_add, Int.natCast_add, Int.natCast_mul]; rfl
        have ec : ((((x * b + y + c) / 18446744073709551616 : Nat)) : Int) = ((x : Int) * b + y + c) / 18446744073709551616 := by rw [Int.natCast_ediv, Int.natCast_add, Int.natCast_add, Int.natCast_mul]; rfl
        have hset := hrw.set (off + k) ((x * b + y + c) % 18446744073709551616)
        rw [ev] at hset
        have p1 : (x : Int) * b ≤ 18446744073709551615 * 18446744073709551615 := Int.mul_le_mul (by omega) (by omega) (by omega) (by omega)
        generalize (x : Int) * (b : Int) = p at *
        have s2 : p / 18446744073709551616 + (p % 18446744073709551616 + y) / 18446744073709551616 + ((p + y) % 18446744073709551616 + c) / 18446744073709551616 = (p + y + c) / 18446744073709551616 := by omega
        have HV2 : Hid (((x * b + y + c) / 18446744073709551616 : Nat) = p / 18446744073709551616 + (p % 18446744073709551616 + y) / 18446744073709551616 + ((p + y) % 18446744073709551616 + c) / 18446744073709551616) := ec.trans s2.symm
        have ha1 := fun w => add64_0 (p % 18446744073709551616) (y : Int) (by omega) (by omega) w
        have ha2 := fun w => add64_0 ((p + y) % 18446744073709551616) (c : Int) (by omega) (by omega) w
        have ha3 := fun w => add64_up (p / 18446744073709551616) ((p % 18446744073709551616 + y) / 18446744073709551616) (by omega) (by omega) (by omega) (by omega) w
        have ha4 := fun w => add64_up (p / 18446744073709551616 + (p % 18446744073709551616 + y) / 18446744073709551616) (((p + y) % 18446744073709551616 + c) / 18446744073709551616) (by omega) (by omega) (by omega) (by omega) w
        have hbs := fun v => hbw.setCell (off + k) (.int .u64 v)
        clear hc hr hx hy hrw hbw s2 ev ec hR HF e2
        go_wp2_with (go_at_call 89; refine hm.mono ?_; rintro e w' ⟨rfl, hww⟩; subst hww)
        go_roundg (xs.length - (k + 1))
        case measure => omega
        case rel =>
          refine ⟨k + 1, _, _, by omega, rfl, by go_num, ?_, HS, hset.congr (fun j _ => laidF_snoc hol _ j), hbs _⟩
          rw [HV2.out]
    · have hkk : k = xs.length := by omega
      subst hkk
      go_wp2
      go_ret
      exact ⟨out, c, rfl, hR.out, hrw, hbw⟩
end Go.Proofs.YtmcnnnmlacpppaaDoor
