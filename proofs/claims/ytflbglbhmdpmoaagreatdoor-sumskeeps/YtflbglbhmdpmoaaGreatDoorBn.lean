/- SumsPlain, of any list of floats: both sides are one. -/
import Derived.Test.YtflbglbhmdpmoaaGreatDoorRA
import Derived.Test.YtflbglbhmdpmoaaGreatDoorZ10
namespace Go.Proofs.YtflbglbhmdpmoaaGreatDoor
open Go.RowKit

theorem sameNR {o : Option Nat} {r s : Nat} (h : NR o r) (g : NR o s) (w : World) : Calls Tryz.prog 11 #[.float .f64 r, .float .f64 s] w fun e w' => e = .returned (.bool true) ∧ w' = w := by
  have k := samef_any r s h.1 g.1 w
  rw [NR_same h g] at k
  exact k
set_option maxRecDepth 100000 in
set_option maxHeartbeats 1000000 in
theorem plain_law (l : List Nat) (ao : Option Addr) (cap : Nat) (w : World) (hT : TabW w) (hr : GRow w ao l) (hF : FW l) (hc : l.length ≤ cap) (hn : cap ≤ 1125899906842624) :
    Calls Tryz.prog 28 #[.slice ao l.length cap] w fun e w' => e = .returned (.bool true) ∧ Below w.heap.size w w' := by
  have hr0 := hr.take 4096
  have hF0 := hF.take 4096
  have hl0 := few_len l
  have cf := few_any l.length cap ao w hc hn
  rw [← hl0] at cf
  have hx : (l.take 4096).length ≤ l.length := by rw [List.length_take]; omega
  have hx2 : (l.take 4096).length ≤ 4096 := by rw [List.length_take]; omega
  generalize l.take 4096 = k at hr0 hF0 hl0 cf hx hx2
  have l1 : k.length ≤ 1125899906842624 := by omega
  have l2 : k.length ≤ cap := by omega
  have c1 := fun w h => naive_any k ao cap w h hF0 l1
  have c2 := fun w h => rnaive_any k ao cap w h hF0 l1
  have c3 := fun w h => pair_any 4096 k ao cap w hx2 h hF0 l2 (Nat.le_trans hn (by decide))
  have c4 := fun w h => rpair_any 4096 k ao cap w hx2 h hF0 l2 (Nat.le_trans hn (by decide))
  have c5 := fun w h => kept_any k ao cap w h hF0 l1
  have c6 := fun w h => rkept_any k ao cap w h hF0 l1
  clear hr hF hl0 hx hx2 l1 l2 hc hn
  go_enter Tryz.func28, Tryz.ntmps28
  go_wp2_with (first
    | (go_at_call 6; refine cf.mono ?_; rintro e w0 ⟨rfl, h0⟩; subst w0)
    | (go_at_call 19; refine (c1 _ hr0).mono ?_; rintro e w1 ⟨r1, rfl, n1, b1⟩; have g1 := hr0.below b1)
    | (go_at_call 20; refine (c2 _ g1).mono ?_; rintro e w2 ⟨r2, rfl, n2, b2⟩; have g2 := g1.below b2)
    | (go_at_call 21; refine (c3 _ g2).mono ?_; rintro e w3 ⟨r3, rfl, n3, b3⟩; have g3 := g2.below b3)
    | (go_at_call 22; refine (c4 _ g3).mono ?_; rintro e w4 ⟨r4, rfl, n4, b4⟩; have g4 := g3.below b4)
    | (go_at_call 23; refine (c5 _ g4).mono ?_; rintro e w5 ⟨r5, rfl, n5, b5⟩; have g5 := g4.below b5)
    | (go_at_call 24; refine (c6 _ g5).mono ?_; rintro e w6 ⟨r6, rfl, n6, b6⟩; have o6 : Below w.heap.size w w6 := b1.trans ((b2.trans ((b3.trans ((b4.trans ((b5.trans (b6.mono b5.size)).mono b4.size)).mono b3.size)).mono b2.size)).mono b1.size))
    | (go_at_call 11; refine (sameNR n5 n6 _).mono ?_; rintro e w' ⟨rfl, h'⟩; subst w')
    | (go_at_call 11; refine (sameNR n3 n4 _).mono ?_; rintro e w' ⟨rfl, h'⟩; subst w')
    | (go_at_call 11; refine (sameNR n1 n2 _).mono ?_; rintro e w' ⟨rfl, h'⟩; subst w')
    | (go_at_call 12; refine (uawake _ (tabW_below hT o6)).mono ?_; rintro e w7 ⟨rfl, b7⟩))
  go_ret
  exact ⟨rfl, o6.trans (b7.mono o6.size)⟩
end Go.Proofs.YtflbglbhmdpmoaaGreatDoor
