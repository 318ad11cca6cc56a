/- SpanLays, whatever two spans and float it is given: the walk. (Written by genlays.py.) -/
import Derived.Test.YtmmfhhfnbggjmaaDoorTm
import Derived.Test.YtmmfhhfnbggjmaaDoorTn
import Derived.Test.YtmmfhhfnbggjmaaDoorTp
namespace Go.Proofs.YtmmfhhfnbggjmaaDoor
open Go.RowKit

set_option maxRecDepth 100000 in
set_option maxHeartbeats 4000000 in
theorem lays_not (a b c d x : Nat) (hr : (sRt a b && sRt c d) = false) (w : World) :
    Calls Tryd.prog 4 #[spV a b, spV c d, .float .f64 x] w fun e w' => e = .returned (.bool true) ∧ Below w.heap.size w w' := by
  have hst := run_storef Tryd.prog
  have hu := fun B w h0 h1 h2 h3 hB => shull_not a b c d B hr w h0 h1 h2 h3 hB
  have mt := fun w => smeet_not a b c d hr w
  have r1 := fun w => sright_any a b w
  have r2 := fun w => sright_any c d w
  cases q1 : sRt a b <;> rw [q1] at r1 hr
  · clear hr r2
    go_enter Tryd.func4, Tryd.ntmps4
    go_wp2_with (first
      | (go_at_call 6; refine (sawake _).mono ?_; rintro e v0 ⟨rfl, b0⟩; have A := ((Bx.new _ _ _ _).alloc _).below b0; have C := (Bx.new1 _ _ _ _ _).below b0; have xa0 := A.1; have xa1 := A.2.1; have xc0 := C.1; have xc1 := C.2.1; have Z := old2 b0)
      | (go_at_call 15; refine (hu _ _ (by go_simp) (by go_simp) (by go_simp) (by go_simp) (by go_simp)).mono ?_; rintro e v1 ⟨rfl, b1⟩; have A := (A.alloc _).below b1; have C := (C.alloc _).below b1; have Z := bstep Z b1; obtain ⟨xa0, xa1, _⟩ := A.alloc (.cells #[.float .f64 0, .float .f64 0] 24); obtain ⟨xc0, xc1, _⟩ := C.alloc (.cells #[.float .f64 0, .float .f64 0] 24))
      | (go_at_call_of 16 (Value.agg #[Value.float FloatKind.f64 a, Value.float FloatKind.f64 b]); refine (r1 _).mono ?_; rintro e v2 ⟨rfl, b2⟩; have A := (A.alloc _).below b2; have C := (C.alloc _).below b2; have xa0 := A.1; have xa1 := A.2.1; have xc0 := C.1; have xc1 := C.2.1; have Z := bstep Z b2)
      | (go_at_call 7; refine (mt _).mono ?_; rintro e v4 ⟨rfl, b4⟩; have Z := Z.trans (b4.mono Z.size)))
    go_ret
    exact ⟨rfl, Z.trans (((Below.refl _ _).alloc (Nat.le_refl _) _).mono Z.size)⟩
  · have q2 : sRt c d = false := by simpa using hr
    rw [q2] at r2
    clear hr
    go_enter Tryd.func4, Tryd.ntmps4
    go_wp2_with (first
      | (go_at_call 6; refine (sawake _).mono ?_; rintro e v0 ⟨rfl, b0⟩; have A := ((Bx.new _ _ _ _).alloc _).below b0; have C := (Bx.new1 _ _ _ _ _).below b0; have xa0 := A.1; have xa1 := A.2.1; have xc0 := C.1; have xc1 := C.2.1; have Z := old2 b0)
      | (go_at_call 15; refine (hu _ _ (by go_simp) (by go_simp) (by go_simp) (by go_simp) (by go_simp)).mono ?_; rintro e v1 ⟨rfl, b1⟩; have A := (A.alloc _).below b1; have C := (C.alloc _).below b1; have Z := bstep Z b1; obtain ⟨xa0, xa1, _⟩ := A.alloc (.cells #[.float .f64 0, .float .f64 0] 24); obtain ⟨xc0, xc1, _⟩ := C.alloc (.cells #[.float .f64 0, .float .f64 0] 24))
      | (go_at_call_of 16 (Value.agg #[Value.float FloatKind.f64 a, Value.float FloatKind.f64 b]); refine (r1 _).mono ?_; rintro e v2 ⟨rfl, b2⟩; have A := (A.alloc _).below b2; have C := (C.alloc _).below b2; have xa0 := A.1; have xa1 := A.2.1; have xc0 := C.1; have xc1 := C.2.1; have Z := bstep Z b2)
      | (go_at_call_of 16 (Value.agg #[Value.float FloatKind.f64 c, Value.float FloatKind.f64 d]); refine (r2 _).mono ?_; rintro e v3 ⟨rfl, b3⟩; have A := A.below b3; have C := C.below b3; have xa0 := A.1; have xa1 := A.2.1; have xc0 := C.1; have xc1 := C.2.1; have Z := Z.trans (b3.mono Z.size))
      | (go_at_call 7; refine (mt _).mono ?_; rintro e v4 ⟨rfl, b4⟩; have Z := Z.trans (b4.mono Z.size)))
    go_ret
    exact ⟨rfl, Z.trans (((Below.refl _ _).alloc (Nat.le_refl _) _).mono Z.size)⟩
set_option maxRecDepth 100000 in
set_option maxHeartbeats 8000000 in
theorem lays_apart (a b c d x l g : Nat) (u v : Bool) 
    (hu : ∀ B w, w.cell? ⟨B, 0, none⟩ = some (.float .f64 a) → w.cell? ⟨B, 1, none⟩ = some (.float .f64 b) → w.cell? ⟨B, 2, none⟩ = some (.float .f64 c) → w.cell? ⟨B, 3, none⟩ = some (.float .f64 d) → B < w.heap.size → Calls Tryd.prog 15 #[.slice (some ⟨B, 0, none⟩) 2 2] w fun e w' => e = .returned (.tuple #[spV l g, .int .i64 0]) ∧ Below w.heap.size w w')
    (r1 : ∀ w, Calls Tryd.prog 16 #[spV a b] w fun e w' => e = .returned (.bool true) ∧ Below w.heap.size w w') (r2 : ∀ w, Calls Tryd.prog 16 #[spV c d] w fun e w' => e = .returned (.bool true) ∧ Below w.heap.size w w')
    (i1 : ∀ w, Calls Tryd.prog 8 #[spV a b, spV l g] w fun e w' => e = .returned (.bool true) ∧ Below w.heap.size w w') (i2 : ∀ w, Calls Tryd.prog 8 #[spV c d, spV l g] w fun e w' => e = .returned (.bool true) ∧ Below w.heap.size w w')
    (el : ((FloatKind.f64.format.order l a != some .eq) && (FloatKind.f64.format.order l c != some .eq)) = false) (eg : ((FloatKind.f64.format.order g b != some .eq) && (FloatKind.f64.format.order g d != some .eq)) = false)
    (mt : ∀ w, Calls Tryd.prog 7 #[spV a b, spV c d] w fun e w' => e = .returned (.tuple #[spV 0 0, .int .i64 150]) ∧ Below w.heap.size w w')
    (s1 : ∀ w, Calls Tryd.prog 17 #[spV a b, .float .f64 x] w fun e w' => e = .returned (.bool u) ∧ Below w.heap.size w w') (s2 : ∀ w, Calls Tryd.prog 17 #[spV c d, .float .f64 x] w fun e w' => e = .returned (.bool v) ∧ Below w.heap.size w w')
    (hb2 : (u && v) = false) (o : (FloatKind.f64.format.order b c == some .lt || FloatKind.f64.format.order d a == some .lt) = true) (w : World) :
    Calls Tryd.prog 4 #[spV a b, spV c d, .float .f64 x] w fun e w' => e = .returned (.bool true) ∧ Below w.heap.size w w' := by
  have hst := run_storef Tryd.prog
  cases n1 : (FloatKind.f64.format.order l a != some .eq) <;> rw [n1] at el <;> cases n3 : (FloatKind.f64.format.order g b != some .eq) <;> rw [n3] at eg <;>
    (try have n2 : (FloatKind.f64.format.order l c != some .eq) = false := by simpa using el) <;> (try have n4 : (FloatKind.f64.format.order g d != some .eq) = false := by simpa using eg) <;> clear el eg
  all_goals
    go_enter Tryd.func4, Tryd.ntmps4
    go_upto_region 9 with (first
      | (go_at_call 6; refine (sawake _).mono ?_; rintro e v0 ⟨rfl, b0⟩; have A := ((Bx.new _ _ _ _).alloc _).below b0; have C := (Bx.new1 _ _ _ _ _).below b0; have xa0 := A.1; have xa1 := A.2.1; have xc0 := C.1; have xc1 := C.2.1; have Z := old2 b0)
      | (go_at_call 15; refine (hu _ _ (by go_simp) (by go_simp) (by go_simp) (by go_simp) (by go_simp)).mono ?_; rintro e v1 ⟨rfl, b1⟩; have A := (A.alloc _).below b1; have C := (C.alloc _).below b1; have Z := bstep Z b1; obtain ⟨xa0, xa1, _⟩ := A.alloc (.cells #[.float .f64 l, .float .f64 g] 24); obtain ⟨xc0, xc1, _⟩ := C.alloc (.cells #[.float .f64 l, .float .f64 g] 24))
      | (go_at_call_of 16 (Value.agg #[Value.float FloatKind.f64 a, Value.float FloatKind.f64 b]); refine (r1 _).mono ?_; rintro e v2 ⟨rfl, b2⟩; have A := (A.alloc _).below b2; have C := (C.alloc _).below b2; have H := (Bx.new v1 _ _ _).below b2; have xa0 := A.1; have xa1 := A.2.1; have xc0 := C.1; have xc1 := C.2.1; have xh0 := H.1; have xh1 := H.2.1; have Z := bstep Z b2)
      | (go_at_call_of 16 (Value.agg #[Value.float FloatKind.f64 c, Value.float FloatKind.f64 d]); refine (r2 _).mono ?_; rintro e v3 ⟨rfl, b3⟩; have A := A.below b3; have C := C.below b3; have H := H.below b3; have xa0 := A.1; have xa1 := A.2.1; have xc0 := C.1; have xc1 := C.2.1; have xh0 := H.1; have xh1 := H.2.1; have Z := Z.trans (b3.mono Z.size))
      | (go_at_call_of 8 (Value.agg #[Value.float FloatKind.f64 a, Value.float FloatKind.f64 b]); refine (i1 _).mono ?_; rintro e v4 ⟨rfl, b4⟩; have A := A.below b4; have C := C.below b4; have H := H.below b4; have xa0 := A.1; have xa1 := A.2.1; have xc0 := C.1; have xc1 := C.2.1; have xh0 := H.1; have xh1 := H.2.1; have Z := Z.trans (b4.mono Z.size))
      | (go_at_call_of 8 (Value.agg #[Value.float FloatKind.f64 c, Value.float FloatKind.f64 d]); refine (i2 _).mono ?_; rintro e v5 ⟨rfl, b5⟩; have A := A.below b5; have C := C.below b5; have H := H.below b5; have xa0 := A.1; have xa1 := A.2.1; have xc0 := C.1; have xc1 := C.2.1; have xh0 := H.1; have xh1 := H.2.1; have Z := Z.trans (b5.mono Z.size)))
    clear H xh0 xh1
    cases u
    · skip
      · cases p1 : (FloatKind.f64.format.order b c == some .lt) <;> rw [p1] at o <;> (try have p2 : (FloatKind.f64.format.order d a == some .lt) = true := by simpa using o) <;> clear o <;>
        (go_wp2_with (first
          | (go_at_call 7; refine (mt _).mono ?_; rintro e v6 ⟨rfl, b6⟩; have A := A.below b6; have C := C.below b6; have Z := Z.trans (b6.mono Z.size); obtain ⟨xa0, xa1, _⟩ := A.alloc (.cells #[.float .f64 0, .float .f64 0] 24); obtain ⟨xc0, xc1, _⟩ := C.alloc (.cells #[.float .f64 0, .float .f64 0] 24))
          | (go_at_call_of 17 (Value.agg #[Value.float FloatKind.f64 a, Value.float FloatKind.f64 b]); refine (s1 _).mono ?_; rintro e v7 ⟨rfl, b7⟩; have A := (A.alloc _).below b7; have C := (C.alloc _).below b7; have K := (Bx.new v6 _ _ _).below b7; have xa0 := A.1; have xa1 := A.2.1; have xc0 := C.1; have xc1 := C.2.1; have xk0 := K.1; have xk1 := K.2.1; have Z := bstep Z b7)
          | (go_at_call_of 17 (Value.agg #[Value.float FloatKind.f64 c, Value.float FloatKind.f64 d]); refine (s2 _).mono ?_; rintro e v8 ⟨rfl, b8⟩; have A := A.below b8; have C := C.below b8; have K := K.below b8; have xa0 := A.1; have xa1 := A.2.1; have xc0 := C.1; have xc1 := C.2.1; have xk0 := K.1; have xk1 := K.2.1; have Z := Z.trans (b8.mono Z.size)))
         go_ret
         exact ⟨rfl, Z⟩)
    · cases v
      · cases p1 : (FloatKind.f64.format.order b c == some .lt) <;> rw [p1] at o <;> (try have p2 : (FloatKind.f64.format.order d a == some .lt) = true := by simpa using o) <;> clear o <;>
        (go_wp2_with (first
          | (go_at_call 7; refine (mt _).mono ?_; rintro e v6 ⟨rfl, b6⟩; have A := A.below b6; have C := C.below b6; have Z := Z.trans (b6.mono Z.size); obtain ⟨xa0, xa1, _⟩ := A.alloc (.cells #[.float .f64 0, .float .f64 0] 24); obtain ⟨xc0, xc1, _⟩ := C.alloc (.cells #[.float .f64 0, .float .f64 0] 24))
          | (go_at_call_of 17 (Value.agg #[Value.float FloatKind.f64 a, Value.float FloatKind.f64 b]); refine (s1 _).mono ?_; rintro e v7 ⟨rfl, b7⟩; have A := (A.alloc _).below b7; have C := (C.alloc _).below b7; have K := (Bx.new v6 _ _ _).below b7; have xa0 := A.1; have xa1 := A.2.1; have xc0 := C.1; have xc1 := C.2.1; have xk0 := K.1; have xk1 := K.2.1; have Z := bstep Z b7)
          | (go_at_call_of 17 (Value.agg #[Value.float FloatKind.f64 c, Value.float FloatKind.f64 d]); refine (s2 _).mono ?_; rintro e v8 ⟨rfl, b8⟩; have A := A.below b8; have C := C.below b8; have K := K.below b8; have xa0 := A.1; have xa1 := A.2.1; have xc0 := C.1; have xc1 := C.2.1; have xk0 := K.1; have xk1 := K.2.1; have Z := Z.trans (b8.mono Z.size)))
         go_ret
         exact ⟨rfl, Z⟩)
      · cases hb2
set_option maxRecDepth 100000 in
set_option maxHeartbeats 8000000 in
theorem lays_meet (a b c d x l g p q : Nat) (u v : Bool) 
    (hu : ∀ B w, w.cell? ⟨B, 0, none⟩ = some (.float .f64 a) → w.cell? ⟨B, 1, none⟩ = some (.float .f64 b) → w.cell? ⟨B, 2, none⟩ = some (.float .f64 c) → w.cell? ⟨B, 3, none⟩ = some (.float .f64 d) → B < w.heap.size → Calls Tryd.prog 15 #[.slice (some ⟨B, 0, none⟩) 2 2] w fun e w' => e = .returned (.tuple #[spV l g, .int .i64 0]) ∧ Below w.heap.size w w')
    (r1 : ∀ w, Calls Tryd.prog 16 #[spV a b] w fun e w' => e = .returned (.bool true) ∧ Below w.heap.size w w') (r2 : ∀ w, Calls Tryd.prog 16 #[spV c d] w fun e w' => e = .returned (.bool true) ∧ Below w.heap.size w w')
    (i1 : ∀ w, Calls Tryd.prog 8 #[spV a b, spV l g] w fun e w' => e = .returned (.bool true) ∧ Below w.heap.size w w') (i2 : ∀ w, Calls Tryd.prog 8 #[spV c d, spV l g] w fun e w' => e = .returned (.bool true) ∧ Below w.heap.size w w')
    (el : ((FloatKind.f64.format.order l a != some .eq) && (FloatKind.f64.format.order l c != some .eq)) = false) (eg : ((FloatKind.f64.format.order g b != some .eq) && (FloatKind.f64.format.order g d != some .eq)) = false)
    (mt : ∀ w, Calls Tryd.prog 7 #[spV a b, spV c d] w fun e w' => e = .returned (.tuple #[spV p q, .int .i64 0]) ∧ Below w.heap.size w w')
    (s1 : ∀ w, Calls Tryd.prog 17 #[spV a b, .float .f64 x] w fun e w' => e = .returned (.bool u) ∧ Below w.heap.size w w') (s2 : ∀ w, Calls Tryd.prog 17 #[spV c d, .float .f64 x] w fun e w' => e = .returned (.bool v) ∧ Below w.heap.size w w')
    (s3 : ∀ w, Calls Tryd.prog 17 #[spV p q, .float .f64 x] w fun e w' => e = .returned (.bool (u && v)) ∧ Below w.heap.size w w') (i3 : ∀ w, Calls Tryd.prog 8 #[spV p q, spV a b] w fun e w' => e = .returned (.bool true) ∧ Below w.heap.size w w') (i4 : ∀ w, Calls Tryd.prog 8 #[spV p q, spV c d] w fun e w' => e = .returned (.bool true) ∧ Below w.heap.size w w') (w : World) :
    Calls Tryd.prog 4 #[spV a b, spV c d, .float .f64 x] w fun e w' => e = .returned (.bool true) ∧ Below w.heap.size w w' := by
  have hst := run_storef Tryd.prog
  cases n1 : (FloatKind.f64.format.order l a != some .eq) <;> rw [n1] at el <;> cases n3 : (FloatKind.f64.format.order g b != some .eq) <;> rw [n3] at eg <;>
    (try have n2 : (FloatKind.f64.format.order l c != some .eq) = false := by simpa using el) <;> (try have n4 : (FloatKind.f64.format.order g d != some .eq) = false := by simpa using eg) <;> clear el eg
  all_goals
    go_enter Tryd.func4, Tryd.ntmps4
    go_upto_region 9 with (first
      | (go_at_call 6; refine (sawake _).mono ?_; rintro e v0 ⟨rfl, b0⟩; have A := ((Bx.new _ _ _ _).alloc _).below b0; have C := (Bx.new1 _ _ _ _ _).below b0; have xa0 := A.1; have xa1 := A.2.1; have xc0 := C.1; have xc1 := C.2.1; have Z := old2 b0)
      | (go_at_call 15; refine (hu _ _ (by go_simp) (by go_simp) (by go_simp) (by go_simp) (by go_simp)).mono ?_; rintro e v1 ⟨rfl, b1⟩; have A := (A.alloc _).below b1; have C := (C.alloc _).below b1; have Z := bstep Z b1; obtain ⟨xa0, xa1, _⟩ := A.alloc (.cells #[.float .f64 l, .float .f64 g] 24); obtain ⟨xc0, xc1, _⟩ := C.alloc (.cells #[.float .f64 l, .float .f64 g] 24))
      | (go_at_call_of 16 (Value.agg #[Value.float FloatKind.f64 a, Value.float FloatKind.f64 b]); refine (r1 _).mono ?_; rintro e v2 ⟨rfl, b2⟩; have A := (A.alloc _).below b2; have C := (C.alloc _).below b2; have H := (Bx.new v1 _ _ _).below b2; have xa0 := A.1; have xa1 := A.2.1; have xc0 := C.1; have xc1 := C.2.1; have xh0 := H.1; have xh1 := H.2.1; have Z := bstep Z b2)
      | (go_at_call_of 16 (Value.agg #[Value.float FloatKind.f64 c, Value.float FloatKind.f64 d]); refine (r2 _).mono ?_; rintro e v3 ⟨rfl, b3⟩; have A := A.below b3; have C := C.below b3; have H := H.below b3; have xa0 := A.1; have xa1 := A.2.1; have xc0 := C.1; have xc1 := C.2.1; have xh0 := H.1; have xh1 := H.2.1; have Z := Z.trans (b3.mono Z.size))
      | (go_at_call_of 8 (Value.agg #[Value.float FloatKind.f64 a, Value.float FloatKind.f64 b]); refine (i1 _).mono ?_; rintro e v4 ⟨rfl, b4⟩; have A := A.below b4; have C := C.below b4; have H := H.below b4; have xa0 := A.1; have xa1 := A.2.1; have xc0 := C.1; have xc1 := C.2.1; have xh0 := H.1; have xh1 := H.2.1; have Z := Z.trans (b4.mono Z.size))
      | (go_at_call_of 8 (Value.agg #[Value.float FloatKind.f64 c, Value.float FloatKind.f64 d]); refine (i2 _).mono ?_; rintro e v5 ⟨rfl, b5⟩; have A := A.below b5; have C := C.below b5; have H := H.below b5; have xa0 := A.1; have xa1 := A.2.1; have xc0 := C.1; have xc1 := C.2.1; have xh0 := H.1; have xh1 := H.2.1; have Z := Z.trans (b5.mono Z.size)))
    clear H xh0 xh1
    cases u
    · go_wp2_with (first
          | (go_at_call 7; refine (mt _).mono ?_; rintro e v6 ⟨rfl, b6⟩; have A := A.below b6; have C := C.below b6; have Z := Z.trans (b6.mono Z.size); obtain ⟨xa0, xa1, _⟩ := A.alloc (.cells #[.float .f64 p, .float .f64 q] 24); obtain ⟨xc0, xc1, _⟩ := C.alloc (.cells #[.float .f64 p, .float .f64 q] 24))
          | (go_at_call_of 17 (Value.agg #[Value.float FloatKind.f64 a, Value.float FloatKind.f64 b]); refine (s1 _).mono ?_; rintro e v7 ⟨rfl, b7⟩; have A := (A.alloc _).below b7; have C := (C.alloc _).below b7; have K := (Bx.new v6 _ _ _).below b7; have xa0 := A.1; have xa1 := A.2.1; have xc0 := C.1; have xc1 := C.2.1; have xk0 := K.1; have xk1 := K.2.1; have Z := bstep Z b7)
          | (go_at_call_of 17 (Value.agg #[Value.float FloatKind.f64 c, Value.float FloatKind.f64 d]); refine (s2 _).mono ?_; rintro e v8 ⟨rfl, b8⟩; have A := A.below b8; have C := C.below b8; have K := K.below b8; have xa0 := A.1; have xa1 := A.2.1; have xc0 := C.1; have xc1 := C.2.1; have xk0 := K.1; have xk1 := K.2.1; have Z := Z.trans (b8.mono Z.size))
          | (go_at_call_of 17 (Value.agg #[Value.float FloatKind.f64 p, Value.float FloatKind.f64 q]); refine (s3 _).mono ?_; rintro e v9 ⟨rfl, b9⟩; have A := A.below b9; have C := C.below b9; have K := K.below b9; have xa0 := A.1; have xa1 := A.2.1; have xc0 := C.1; have xc1 := C.2.1; have xk0 := K.1; have xk1 := K.2.1; have Z := Z.trans (b9.mono Z.size))
          | (go_at_call_of 8 (Value.agg #[Value.float FloatKind.f64 a, Value.float FloatKind.f64 b]); refine (i3 _).mono ?_; rintro e v10 ⟨rfl, b10⟩; have A := A.below b10; have C := C.below b10; have K := K.below b10; have xa0 := A.1; have xa1 := A.2.1; have xc0 := C.1; have xc1 := C.2.1; have xk0 := K.1; have xk1 := K.2.1; have Z := Z.trans (b10.mono Z.size))
          | (go_at_call_of 8 (Value.agg #[Value.float FloatKind.f64 c, Value.float FloatKind.f64 d]); refine (i4 _).mono ?_; rintro e v11 ⟨rfl, b11⟩; have Z := Z.trans (b11.mono Z.size)))
      go_ret
      exact ⟨rfl, Z⟩
    · cases v <;>
        (go_wp2_with (first
          | (go_at_call 7; refine (mt _).mono ?_; rintro e v6 ⟨rfl, b6⟩; have A := A.below b6; have C := C.below b6; have Z := Z.trans (b6.mono Z.size); obtain ⟨xa0, xa1, _⟩ := A.alloc (.cells #[.float .f64 p, .float .f64 q] 24); obtain ⟨xc0, xc1, _⟩ := C.alloc (.cells #[.float .f64 p, .float .f64 q] 24))
          | (go_at_call_of 17 (Value.agg #[Value.float FloatKind.f64 a, Value.float FloatKind.f64 b]); refine (s1 _).mono ?_; rintro e v7 ⟨rfl, b7⟩; have A := (A.alloc _).below b7; have C := (C.alloc _).below b7; have K := (Bx.new v6 _ _ _).below b7; have xa0 := A.1; have xa1 := A.2.1; have xc0 := C.1; have xc1 := C.2.1; have xk0 := K.1; have xk1 := K.2.1; have Z := bstep Z b7)
          | (go_at_call_of 17 (Value.agg #[Value.float FloatKind.f64 c, Value.float FloatKind.f64 d]); refine (s2 _).mono ?_; rintro e v8 ⟨rfl, b8⟩; have A := A.below b8; have C := C.below b8; have K := K.below b8; have xa0 := A.1; have xa1 := A.2.1; have xc0 := C.1; have xc1 := C.2.1; have xk0 := K.1; have xk1 := K.2.1; have Z := Z.trans (b8.mono Z.size))
          | (go_at_call_of 17 (Value.agg #[Value.float FloatKind.f64 p, Value.float FloatKind.f64 q]); refine (s3 _).mono ?_; rintro e v9 ⟨rfl, b9⟩; have A := A.below b9; have C := C.below b9; have K := K.below b9; have xa0 := A.1; have xa1 := A.2.1; have xc0 := C.1; have xc1 := C.2.1; have xk0 := K.1; have xk1 := K.2.1; have Z := Z.trans (b9.mono Z.size))
          | (go_at_call_of 8 (Value.agg #[Value.float FloatKind.f64 a, Value.float FloatKind.f64 b]); refine (i3 _).mono ?_; rintro e v10 ⟨rfl, b10⟩; have A := A.below b10; have C := C.below b10; have K := K.below b10; have xa0 := A.1; have xa1 := A.2.1; have xc0 := C.1; have xc1 := C.2.1; have xk0 := K.1; have xk1 := K.2.1; have Z := Z.trans (b10.mono Z.size))
          | (go_at_call_of 8 (Value.agg #[Value.float FloatKind.f64 c, Value.float FloatKind.f64 d]); refine (i4 _).mono ?_; rintro e v11 ⟨rfl, b11⟩; have Z := Z.trans (b11.mono Z.size)))
         go_ret
         exact ⟨rfl, Z⟩)
theorem law_spanlays (a b c d x : Nat) (ha : a < 18446744073709551616) (hb : b < 18446744073709551616) (hc : c < 18446744073709551616) (hd : d < 18446744073709551616) (hx : x < 18446744073709551616) (w : World) (_hT : TabW w) :
    Calls Tryd.prog 4 #[spV a b, spV c d, .float .f64 x] w fun e w' => e = .returned (.bool true) ∧ Below w.heap.size w w' := by
  cases hr : (sRt a b && sRt c d)
  · exact lays_not a b c d x hr w
  · have ra : sRt a b = true := by revert hr; cases sRt a b <;> simp
    have rb : sRt c d = true := by revert hr; cases sRt a b <;> simp
    obtain ⟨na, nb, _⟩ := rt_place ha hb ra
    obtain ⟨nc, nd, _⟩ := rt_place hc hd rb
    have hu := fun B w h0 h1 h2 h3 hB => shull_yes a b c d _ _ B rfl rfl ha hb hc hd hr w h0 h1 h2 h3 hB
    have r1 := fun w => sright_any a b w
    have r2 := fun w => sright_any c d w
    rw [ra] at r1
    rw [rb] at r2
    obtain ⟨f1, f2⟩ := hull_facts ha hb hc hd ra rb
    have i1 := fun w => sin_any a b (lsF a c) (grF b d) w
    have i2 := fun w => sin_any c d (lsF a c) (grF b d) w
    rw [f1] at i1
    rw [f2] at i2
    have el := ends_are ha hc na nc (lsF_two a c)
    have eg := ends_are hb hd nb nd (grF_two b d)
    have s1 := fun w => shas_any a b x hx w
    have s2 := fun w => shas_any c d x hx w
    cases o : (FloatKind.f64.format.order (grF a c) (lsF b d) == some .gt)
    · have mt := fun w => smeet_yes a b c d _ _ false rfl rfl o ha hb hc hd hr w
      obtain ⟨g1, g2, g3⟩ := meet_facts ha hb hc hd hx ra rb o
      have s3 := fun w => shas_any (grF a c) (lsF b d) x hx w
      have i3 := fun w => sin_any (grF a c) (lsF b d) a b w
      have i4 := fun w => sin_any (grF a c) (lsF b d) c d w
      rw [g1] at s3
      rw [g2] at i3
      rw [g3] at i4
      exact lays_meet a b c d x _ _ _ _ _ _ hu r1 r2 i1 i2 el eg mt s1 s2 s3 i3 i4 w
    · have mt := fun w => smeet_yes a b c d _ _ true rfl rfl o ha hb hc hd hr w
      obtain ⟨g1, g2⟩ := meet_none ha hb hc hd hx ra rb o
      exact lays_apart a b c d x _ _ _ _ hu r1 r2 i1 i2 el eg mt s1 s2 g1 g2 w
end Go.Proofs.YtmmfhhfnbggjmaaDoor
