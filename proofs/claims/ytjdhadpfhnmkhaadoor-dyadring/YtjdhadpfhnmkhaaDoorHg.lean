/- DyadRing for any three dyads: made, then the ring's laws. -/
import Derived.Test.YtjdhadpfhnmkhaaDoorHf
import Derived.Test.YtjdhadpfhnmkhaaDoorHy
namespace Go.Proofs.YtjdhadpfhnmkhaaDoor
open Go.RowKit

theorem ring_law (a b c : Dy) (ao bo co : Option Addr) (ac bc cc : Nat) (w : World) (ra : LRow w ao a.mag) (rb : LRow w bo b.mag) (rc : LRow w co c.mag) (la : Lm a.mag) (lb : Lm b.mag) (lc : Lm c.mag)
    (sa : ao = none → ac = 0 ∧ a.mag.length = 0) (sb : bo = none → bc = 0 ∧ b.mag.length = 0) (sc : co = none → cc = 0 ∧ c.mag.length = 0) (na : a.mag.length ≤ 17592186044416) (nb : b.mag.length ≤ 17592186044416) (nc : c.mag.length ≤ 17592186044416) (hT : TabW w) :
    Calls Tryd.prog 3 #[.agg #[.bool a.neg, .slice ao a.mag.length ac, .int .i64 a.exp], .agg #[.bool b.neg, .slice bo b.mag.length bc, .int .i64 b.exp], .agg #[.bool c.neg, .slice co c.mag.length cc, .int .i64 c.exp]] w fun e w' => e = .returned (.bool true) ∧ Below w.heap.size w w' := by
  obtain ⟨⟨x, k1⟩, hx⟩ : ∃ r, normD a = r := ⟨_, rfl⟩
  obtain ⟨⟨y, k2⟩, hy⟩ : ∃ r, normD b = r := ⟨_, rfl⟩
  obtain ⟨⟨z, k3⟩, hz⟩ : ∃ r, normD c = r := ⟨_, rfl⟩
  have hmade := fun (ok : Bool) (hok : ((k1 == 0) && ((k2 == 0) && (k3 == 0))) = ok) w' (ra' : LRow w' ao a.mag) (rb' : LRow w' bo b.mag) (rc' : LRow w' co c.mag) (hT' : TabW w') =>
    made_walk a b c x y z k1 k2 k3 ao bo co ac bc cc w' ra' rb' rc' la lb lc sa sb sc na nb nc hT' hx hy hz ok hok
  cases hk : ((k1 == 0) && ((k2 == 0) && (k3 == 0)))
  · exact ring_early a b c x y z ao bo co ac bc cc w ra rb rc hT (hmade false hk)
  · obtain ⟨e1, e2, e3⟩ : k1 = 0 ∧ k2 = 0 ∧ k3 = 0 := by simpa using hk
    have rt : ∀ d r k, normD d = (r, k) → k = 0 → rightB r = true ∧ Lm r.mag ∧ r.mag.length ≤ 256 := fun d r k h h0 => by
      have h1 : (nrm (sv d) d.exp).2 = 0 := by rw [show nrm (sv d) d.exp = (r, k) from h]; exact h0
      have h2 := (nrm_ok h1).1
      have h3 := nrm_lm (sv d) d.exp
      have h4 := nrm_len (sv d) d.exp
      rw [show nrm (sv d) d.exp = (r, k) from h] at h2 h3 h4
      exact ⟨h2, h3, h4⟩
    obtain ⟨rx, lx, nx⟩ := rt a x k1 hx e1
    obtain ⟨ry, ly, ny⟩ := rt b y k2 hy e2
    obtain ⟨rz, lz, nz⟩ := rt c z k3 hz e3
    exact ring_ok a b c x y z (addD x y).1 (mulD x y).1 (addD y z).1 (mulD y z).1 (mulD x z).1 (addD x y).2 (mulD x y).2 (addD y z).2 (mulD y z).2 (mulD x z).2 ao bo co ac bc cc w ra rb rc hT (hmade true hk)
      lx ly lz (addD_lm _ _) (mulD_lm _ _) (addD_lm _ _) (mulD_lm _ _) (mulD_lm _ _) nx (addD_len _ _) (mulD_len _ _)
      rfl (addD_comm y x) rfl (mul_comm' y x) rfl rfl rfl (addD_err rx ry) (mulD_err rx ry)
      (fun h => ring_back rx ry lx h) (fun h1 h2 => ring_add rx ry rz h1 h2) (fun h1 h2 => ring_mul rx ry rz h1 h2) (fun h1 h2 h3 => ring_dist rx ry rz h1 h2 h3) addD_len mulD_len
end Go.Proofs.YtjdhadpfhnmkhaaDoor
