/- Part 13 of 53: the texts Al, one behind the other. -/
import Derived.Test.YteaokkaidcbdlaaGreatDoorM10
import Derived.Test.YteaokkaidcbdlaaGreatDoorM12
import Derived.Test.YteaokkaidcbdlaaGreatDoorM6
namespace Go.Proofs.YteaokkaidcbdlaaGreatDoor
open Go Go.RowKit Go.Shelf
def plainB (a b : TyD) : Bool := ((a.kind : Int) == b.kind) && ((a.low == b.low) && ((a.high == b.high) && ((a.branded == b.branded) && (sameS a.brand b.brand && sameS a.opq b.opq))))
def agreeB (a b : TyD) : Bool := plainB a b && (fitB a.super b.super && (eqF partFitB a.parts b.parts && (eqF methFitB a.meths b.meths && eqF overFitB a.overs b.overs)))
set_option maxRecDepth 100000 in
set_option maxHeartbeats 64000000 in
theorem areAlike_any (a b : TyD) (va1 va2 va3 vb1 vb2 vb3 : Value) (W : World) (ha : TyL W va1 va2 va3 a) (hb : TyL W vb1 vb2 vb3 b) :
    Calls Tryz.prog 114 #[tyVal a va1 va2 va3, tyVal b vb1 vb2 vb3, .func (.func 158) #[] #[]] W fun e w' => e = .returned (.bool (agreeB a b)) ∧ Below W.heap.size W w' := by
  obtain ⟨o1, c1, rfl⟩ := ha.parts.form
  obtain ⟨o2, c2, rfl⟩ := ha.meths.form
  obtain ⟨o3, c3, rfl⟩ := ha.overs.form
  obtain ⟨p1, d1, rfl⟩ := hb.parts.form
  obtain ⟨p2, d2, rfl⟩ := hb.meths.form
  obtain ⟨p3, d3, rfl⟩ := hb.overs.form
  obtain ⟨W3, hW3, hEQ, g1, g2, g3⟩ : ∃ W3, Below W.heap.size W W3 ∧ W3 = (((W.alloc (.cells #[.int .u8 a.kind, .int .i64 a.low, .int .i64 a.high, .bool a.branded, .string a.brand, .string a.opq, .int .i64 a.super, .slice o1 a.parts.length c1, .slice o2 a.meths.length c2, .slice o3 a.overs.length c3] 62)).alloc (.cells #[.int .u8 b.kind, .int .i64 b.low, .int .i64 b.high, .bool b.branded, .string b.brand, .string b.opq, .int .i64 b.super, .slice p1 b.parts.length d1, .slice p2 b.meths.length d2, .slice p3 b.overs.length d3] 62)).alloc (.cells #[.func (.func 158) #[] #[]] 132)) ∧
      Blk W3 W.heap.size (tyC a (.slice o1 a.parts.length c1) (.slice o2 a.meths.length c2) (.slice o3 a.overs.length c3)) 62 ∧ Blk W3 (W.heap.size + 1) (tyC b (.slice p1 b.parts.length d1) (.slice p2 b.meths.length d2) (.slice p3 b.overs.length d3)) 62 ∧ Blk W3 (W.heap.size + 1 + 1) [.func (.func 158) #[] #[]] 132 := by
    refine ⟨_, (((Below.refl _ _).alloc (Nat.le_refl _) _).alloc (by simp) _).alloc (by simp; omega) _, rfl, ((Blk.new W (tyC a (.slice o1 a.parts.length c1) (.slice o2 a.meths.length c2) (.slice o3 a.overs.length c3)) 62).alloc _).alloc _, ?_, ?_⟩
    ·have h := Blk.new (W.alloc (.cells (tyC a (.slice o1 a.parts.length c1) (.slice o2 a.meths.length c2) (.slice o3 a.overs.length c3)).toArray 62)) (tyC b (.slice p1 b.parts.length d1) (.slice p2 b.meths.length d2) (.slice p3 b.overs.length d3)) 62
     rw [World.size_alloc] at h
     exact h.alloc _
    ·have h := Blk.new ((W.alloc (.cells (tyC a (.slice o1 a.parts.length c1) (.slice o2 a.meths.length c2) (.slice o3 a.overs.length c3)).toArray 62)).alloc (.cells (tyC b (.slice p1 b.parts.length d1) (.slice p2 b.meths.length d2) (.slice p3 b.overs.length d3)).toArray 62)) [.func (.func 158) #[] #[]] 132
     rw [World.size_alloc, World.size_alloc] at h
     exact h
  have hA : ∀ w', Below W3.heap.size W3 w' → Blk w' W.heap.size (tyC a (.slice o1 a.parts.length c1) (.slice o2 a.meths.length c2) (.slice o3 a.overs.length c3)) 62 := fun w' h => g1.below h g1.lt
  have hBb : ∀ w', Below W3.heap.size W3 w' → Blk w' (W.heap.size + 1) (tyC b (.slice p1 b.parts.length d1) (.slice p2 b.meths.length d2) (.slice p3 b.overs.length d3)) 62 := fun w' h => g2.below h g2.lt
  have hFt : ∀ w', Below W3.heap.size W3 w' → Blk w' (W.heap.size + 1 + 1) [.func (.func 158) #[] #[]] 132 := fun w' h => g3.below h g3.lt
  have hpa := fun w (_ : Below W3.heap.size W3 w) => plainOf_any a (.slice o1 a.parts.length c1) (.slice o2 a.meths.length c2) (.slice o3 a.overs.length c3) w
  have hpb := fun w (_ : Below W3.heap.size W3 w) => plainOf_any b (.slice p1 b.parts.length d1) (.slice p2 b.meths.length d2) (.slice p3 b.overs.length d3) w
  have HPa := hide hpa
  have HPb := hide hpb
  clear hpa hpb
  have hfc : W3.cell? ⟨W.heap.size + 1 + 1, 0, none⟩ = some fitV := g3.cell 0
  have la := ha.go (.below hW3)
  have lb := hb.go (.below hW3)
  have HS := hide (fun w (_ : Below W3.heap.size W3 w) => (fit_any a.super b.super w).mono fun _ w' (h : _ ∧ w' = w) => (⟨h.1, h.2 ▸ Below.refl _ _⟩ : _ ∧ Below w.heap.size w w'))
  have HP := hide (fun w (h : Below W3.heap.size W3 w) => eqParts_any _ _ a.parts b.parts _ W3 w hfc la.parts lb.parts h)
  have HM := hide (fun w (h : Below W3.heap.size W3 w) => eqMeths_any _ _ a.meths b.meths _ W3 w hfc la.meths lb.meths h)
  have HV := hide (fun w (h : Below W3.heap.size W3 w) => (eqOvers_any _ _ a.overs b.overs w (la.go (.below h)).overs (lb.go (.below h)).overs).mono fun _ w' (h' : _ ∧ ∃ n, w' = w.drewN n) => (⟨h'.1, by obtain ⟨n, rfl⟩ := h'.2; exact below_drewN' (Below.refl _ _) n⟩ : _ ∧ Below w.heap.size w w'))
  have hU1 : tyVal a (.slice o1 a.parts.length c1) (.slice o2 a.meths.length c2) (.slice o3 a.overs.length c3) = .agg #[.int .u8 a.kind, .int .i64 a.low, .int .i64 a.high, .bool a.branded, .string a.brand, .string a.opq, .int .i64 a.super, .slice o1 a.parts.length c1, .slice o2 a.meths.length c2, .slice o3 a.overs.length c3] := rfl
  have hU2 : tyVal b (.slice p1 b.parts.length d1) (.slice p2 b.meths.length d2) (.slice p3 b.overs.length d3) = .agg #[.int .u8 b.kind, .int .i64 b.low, .int .i64 b.high, .bool b.branded, .string b.brand, .string b.opq, .int .i64 b.super, .slice p1 b.parts.length d1, .slice p2 b.meths.length d2, .slice p3 b.overs.length d3] := rfl
  rw [hU1, hU2]
  clear ha hb la lb hfc g1 g2 g3 hU1 hU2
  have HB := Lib.hid (show agreeB a b = ((((a.kind : Int) == b.kind) && ((a.low == b.low) && ((a.high == b.high) && ((a.branded == b.branded) && (sameS a.brand b.brand && sameS a.opq b.opq))))) && (fitB a.super b.super && (eqF partFitB a.parts b.parts && (eqF methFitB a.meths b.meths && eqF overFitB a.overs b.overs)))) from rfl)
  have q5 : (a.brand.toList == b.brand.toList) = sameS a.brand b.brand := rfl
  have q6 : (a.opq.toList == b.opq.toList) = sameS a.opq b.opq := rfl
  generalize q1 : ((a.kind : Int) == b.kind) = x1 at HB
  generalize q2 : (a.low == b.low) = x2 at HB
  generalize q3 : (a.high == b.high) = x3 at HB
  generalize q4 : (a.branded == b.branded) = x4 at HB
  generalize sameS a.brand b.brand = x5 at HB q5
  generalize sameS a.opq b.opq = x6 at HB q6
  generalize fitB a.super b.super = s at HB HS
  generalize eqF partFitB a.parts b.parts = pp at HB HP
  generalize eqF methFitB a.meths b.meths = mm at HB HM
  generalize eqF overFitB a.overs b.overs = vv at HB HV
  cases x1
  ·go_enter Tryz.func114, Tryz.ntmps114
   go_wp2_with fail
   rw [← hEQ]
   clear hEQ
   refine wp_region_quiet (C := fun w' => Below W3.heap.size W3 w') (by kernel_rfl) (by kernel_rfl) (below_drewN' (Below.refl _ _) 1) ?_
   simp only []
   repeat (first
    | go_big_quiet_skip
    | (go_big_quiet_want; go_big_quiet_op; first
      | go_big_quiet_on
       | (refine ⟨_, fun _ _ => rfl, ?_⟩; go_big_quiet_on)
       | (refine ⟨.int .i64 a.super, ?_, ?_⟩
          ·intro w1 hb
           have e := (hA w1 hb).cell 6
           simp [tyC] at e
           simp [e, go_sem]
           done
          go_big_quiet_on)
       | (refine ⟨.int .i64 b.super, ?_, ?_⟩
          ·intro w1 hb
           have e := (hBb w1 hb).cell 6
           simp [tyC] at e
           simp [e, go_sem]
           done
          go_big_quiet_on)
       | (refine ⟨.slice o1 a.parts.length c1, ?_, ?_⟩
          ·intro w1 hb
           have e := (hA w1 hb).cell 7
           simp [tyC] at e
           simp [e, go_sem]
           done
          go_big_quiet_on)
       | (refine ⟨.slice p1 b.parts.length d1, ?_, ?_⟩
          ·intro w1 hb
           have e := (hBb w1 hb).cell 7
           simp [tyC] at e
           simp [e, go_sem]
           done
          go_big_quiet_on)
       | (refine ⟨.slice o2 a.meths.length c2, ?_, ?_⟩
          ·intro w1 hb
           have e := (hA w1 hb).cell 8
           simp [tyC] at e
           simp [e, go_sem]
           done
          go_big_quiet_on)
       | (refine ⟨.slice p2 b.meths.length d2, ?_, ?_⟩
          ·intro w1 hb
           have e := (hBb w1 hb).cell 8
           simp [tyC] at e
           simp [e, go_sem]
           done
          go_big_quiet_on)
       | (refine ⟨.slice o3 a.overs.length c3, ?_, ?_⟩
          ·intro w1 hb
           have e := (hA w1 hb).cell 9
           simp [tyC] at e
           simp [e, go_sem]
           done
          go_big_quiet_on)
       | (refine ⟨.slice p3 b.overs.length d3, ?_, ?_⟩
          ·intro w1 hb
           have e := (hBb w1 hb).cell 9
           simp [tyC] at e
           simp [e, go_sem]
           done
          go_big_quiet_on)
       | (refine ⟨.func (.func 158) #[] #[], ?_, ?_⟩
          ·intro w1 hb
           have e := (hFt w1 hb).cell 0
           simp at e
           simp [e, go_sem]
           done
          go_big_quiet_on)
       | (refine ⟨tyVal a (.slice o1 a.parts.length c1) (.slice o2 a.meths.length c2) (.slice o3 a.overs.length c3), ?_, ?_⟩
          ·intro w1 hb
           have e0 := (hA w1 hb).cell 0
           have e1 := (hA w1 hb).cell 1
           have e2 := (hA w1 hb).cell 2
           have e3 := (hA w1 hb).cell 3
           have e4 := (hA w1 hb).cell 4
           have e5 := (hA w1 hb).cell 5
           have e6 := (hA w1 hb).cell 6
           have e7 := (hA w1 hb).cell 7
           have e8 := (hA w1 hb).cell 8
           have e9 := (hA w1 hb).cell 9
           simp [tyC] at e0 e1 e2 e3 e4 e5 e6 e7 e8 e9
           simp [e0, e1, e2, e3, e4, e5, e6, e7, e8, e9, tyVal, go_sem]
           done
          go_big_quiet_on)
       | (refine ⟨tyVal b (.slice p1 b.parts.length d1) (.slice p2 b.meths.length d2) (.slice p3 b.overs.length d3), ?_, ?_⟩
          ·intro w1 hb
           have e0 := (hBb w1 hb).cell 0
           have e1 := (hBb w1 hb).cell 1
           have e2 := (hBb w1 hb).cell 2
           have e3 := (hBb w1 hb).cell 3
           have e4 := (hBb w1 hb).cell 4
           have e5 := (hBb w1 hb).cell 5
           have e6 := (hBb w1 hb).cell 6
           have e7 := (hBb w1 hb).cell 7
           have e8 := (hBb w1 hb).cell 8
           have e9 := (hBb w1 hb).cell 9
           simp [tyC] at e0 e1 e2 e3 e4 e5 e6 e7 e8 e9
           simp [e0, e1, e2, e3, e4, e5, e6, e7, e8, e9, tyVal, go_sem]
           done
          go_big_quiet_on)
       | (refine ⟨.agg #[.int .u8 a.kind, .int .i64 a.low, .int .i64 a.high, .bool a.branded, .string a.brand, .string a.opq], ?_, ?_⟩
          ·intro w1 hb
           with_reducible refine (unhide HPa w1 hb).mono ?_
           rintro e w2 ⟨rfl, hb2⟩
           exact ⟨rfl, hb.trans (hb2.mono hb.size)⟩
          go_big_quiet_on)
       | (refine ⟨.agg #[.int .u8 b.kind, .int .i64 b.low, .int .i64 b.high, .bool b.branded, .string b.brand, .string b.opq], ?_, ?_⟩
          ·intro w1 hb
           with_reducible refine (unhide HPb w1 hb).mono ?_
           rintro e w2 ⟨rfl, hb2⟩
           exact ⟨rfl, hb.trans (hb2.mono hb.size)⟩
          go_big_quiet_on)
       | (apply Exists.intro
          refine ⟨fun w1 hb => ?_, ?_⟩
          ·with_reducible refine (unhide HS w1 hb).mono ?_
           rintro e w2 ⟨rfl, hb2⟩
           exact ⟨rfl, hb.trans (hb2.mono hb.size)⟩
          go_big_quiet_on)
       | (apply Exists.intro
          refine ⟨fun w1 hb => ?_, ?_⟩
          ·with_reducible refine (unhide HP w1 hb).mono ?_
           rintro e w2 ⟨rfl, hb2⟩
           exact ⟨rfl, hb.trans (hb2.mono hb.size)⟩
          go_big_quiet_on)
       | (apply Exists.intro
          refine ⟨fun w1 hb => ?_, ?_⟩
          ·with_reducible refine (unhide HM w1 hb).mono ?_
           rintro e w2 ⟨rfl, hb2⟩
           exact ⟨rfl, hb.trans (hb2.mono hb.size)⟩
          go_big_quiet_on)
       | (apply Exists.intro
          refine ⟨fun w1 hb => ?_, ?_⟩
          ·with_reducible refine (unhide HV w1 hb).mono ?_
           rintro e w2 ⟨rfl, hb2⟩
           exact ⟨rfl, hb.trans (hb2.mono hb.size)⟩
          go_big_quiet_on)))
   refine wpQuiet_nil ?_
   rintro w1 hb
   go_wp2
   go_ret
   exact ⟨ret_bool (by rw [HB.out]; simp), hW3.trans (hb.mono hW3.size)⟩
  cases x2
  ·go_enter Tryz.func114, Tryz.ntmps114
   go_wp2_with fail
   rw [← hEQ]
   clear hEQ
   refine wp_region_quiet (C := fun w' => Below W3.heap.size W3 w') (by kernel_rfl) (by kernel_rfl) (below_drewN' (Below.refl _ _) 1) ?_
   simp only []
   repeat (first
    | go_big_quiet_skip
    | (go_big_quiet_want; go_big_quiet_op; first
      | go_big_quiet_on
       | (refine ⟨_, fun _ _ => rfl, ?_⟩; go_big_quiet_on)
       | (refine ⟨.int .i64 a.super, ?_, ?_⟩
          ·intro w1 hb
           have e := (hA w1 hb).cell 6
           simp [tyC] at e
           simp [e, go_sem]
           done
          go_big_quiet_on)
       | (refine ⟨.int .i64 b.super, ?_, ?_⟩
          ·intro w1 hb
           have e := (hBb w1 hb).cell 6
           simp [tyC] at e
           simp [e, go_sem]
           done
          go_big_quiet_on)
       | (refine ⟨.slice o1 a.parts.length c1, ?_, ?_⟩
          ·intro w1 hb
           have e := (hA w1 hb).cell 7
           simp [tyC] at e
           simp [e, go_sem]
           done
          go_big_quiet_on)
       | (refine ⟨.slice p1 b.parts.length d1, ?_, ?_⟩
          ·intro w1 hb
           have e := (hBb w1 hb).cell 7
           simp [tyC] at e
           simp [e, go_sem]
           done
          go_big_quiet_on)
       | (refine ⟨.slice o2 a.meths.length c2, ?_, ?_⟩
          ·intro w1 hb
           have e := (hA w1 hb).cell 8
           simp [tyC] at e
           simp [e, go_sem]
           done
          go_big_quiet_on)
       | (refine ⟨.slice p2 b.meths.length d2, ?_, ?_⟩
          ·intro w1 hb
           have e := (hBb w1 hb).cell 8
           simp [tyC] at e
           simp [e, go_sem]
           done
          go_big_quiet_on)
       | (refine ⟨.slice o3 a.overs.length c3, ?_, ?_⟩
          ·intro w1 hb
           have e := (hA w1 hb).cell 9
           simp [tyC] at e
           simp [e, go_sem]
           done
          go_big_quiet_on)
       | (refine ⟨.slice p3 b.overs.length d3, ?_, ?_⟩
          ·intro w1 hb
           have e := (hBb w1 hb).cell 9
           simp [tyC] at e
           simp [e, go_sem]
           done
          go_big_quiet_on)
       | (refine ⟨.func (.func 158) #[] #[], ?_, ?_⟩
          ·intro w1 hb
           have e := (hFt w1 hb).cell 0
           simp at e
           simp [e, go_sem]
           done
          go_big_quiet_on)
       | (refine ⟨tyVal a (.slice o1 a.parts.length c1) (.slice o2 a.meths.length c2) (.slice o3 a.overs.length c3), ?_, ?_⟩
          ·intro w1 hb
           have e0 := (hA w1 hb).cell 0
           have e1 := (hA w1 hb).cell 1
           have e2 := (hA w1 hb).cell 2
           have e3 := (hA w1 hb).cell 3
           have e4 := (hA w1 hb).cell 4
           have e5 := (hA w1 hb).cell 5
           have e6 := (hA w1 hb).cell 6
           have e7 := (hA w1 hb).cell 7
           have e8 := (hA w1 hb).cell 8
           have e9 := (hA w1 hb).cell 9
           simp [tyC] at e0 e1 e2 e3 e4 e5 e6 e7 e8 e9
           simp [e0, e1, e2, e3, e4, e5, e6, e7, e8, e9, tyVal, go_sem]
           done
          go_big_quiet_on)
       | (refine ⟨tyVal b (.slice p1 b.parts.length d1) (.slice p2 b.meths.length d2) (.slice p3 b.overs.length d3), ?_, ?_⟩
          ·intro w1 hb
           have e0 := (hBb w1 hb).cell 0
           have e1 := (hBb w1 hb).cell 1
           have e2 := (hBb w1 hb).cell 2
           have e3 := (hBb w1 hb).cell 3
           have e4 := (hBb w1 hb).cell 4
           have e5 := (hBb w1 hb).cell 5
           have e6 := (hBb w1 hb).cell 6
           have e7 := (hBb w1 hb).cell 7
           have e8 := (hBb w1 hb).cell 8
           have e9 := (hBb w1 hb).cell 9
           simp [tyC] at e0 e1 e2 e3 e4 e5 e6 e7 e8 e9
           simp [e0, e1, e2, e3, e4, e5, e6, e7, e8, e9, tyVal, go_sem]
           done
          go_big_quiet_on)
       | (refine ⟨.agg #[.int .u8 a.kind, .int .i64 a.low, .int .i64 a.high, .bool a.branded, .string a.brand, .string a.opq], ?_, ?_⟩
          ·intro w1 hb
           with_reducible refine (unhide HPa w1 hb).mono ?_
           rintro e w2 ⟨rfl, hb2⟩
           exact ⟨rfl, hb.trans (hb2.mono hb.size)⟩
          go_big_quiet_on)
       | (refine ⟨.agg #[.int .u8 b.kind, .int .i64 b.low, .int .i64 b.high, .bool b.branded, .string b.brand, .string b.opq], ?_, ?_⟩
          ·intro w1 hb
           with_reducible refine (unhide HPb w1 hb).mono ?_
           rintro e w2 ⟨rfl, hb2⟩
           exact ⟨rfl, hb.trans (hb2.mono hb.size)⟩
          go_big_quiet_on)
       | (apply Exists.intro
          refine ⟨fun w1 hb => ?_, ?_⟩
          ·with_reducible refine (unhide HS w1 hb).mono ?_
           rintro e w2 ⟨rfl, hb2⟩
           exact ⟨rfl, hb.trans (hb2.mono hb.size)⟩
          go_big_quiet_on)
       | (apply Exists.intro
          refine ⟨fun w1 hb => ?_, ?_⟩
          ·with_reducible refine (unhide HP w1 hb).mono ?_
           rintro e w2 ⟨rfl, hb2⟩
           exact ⟨rfl, hb.trans (hb2.mono hb.size)⟩
          go_big_quiet_on)
       | (apply Exists.intro
          refine ⟨fun w1 hb => ?_, ?_⟩
          ·with_reducible refine (unhide HM w1 hb).mono ?_
           rintro e w2 ⟨rfl, hb2⟩
           exact ⟨rfl, hb.trans (hb2.mono hb.size)⟩
          go_big_quiet_on)
       | (apply Exists.intro
          refine ⟨fun w1 hb => ?_, ?_⟩
          ·with_reducible refine (unhide HV w1 hb).mono ?_
           rintro e w2 ⟨rfl, hb2⟩
           exact ⟨rfl, hb.trans (hb2.mono hb.size)⟩
          go_big_quiet_on)))
   refine wpQuiet_nil ?_
   rintro w1 hb
   go_wp2
   go_ret
   exact ⟨ret_bool (by rw [HB.out]; simp), hW3.trans (hb.mono hW3.size)⟩
  cases x3
  ·go_enter Tryz.func114, Tryz.ntmps114
   go_wp2_with fail
   rw [← hEQ]
   clear hEQ
   refine wp_region_quiet (C := fun w' => Below W3.heap.size W3 w') (by kernel_rfl) (by kernel_rfl) (below_drewN' (Below.refl _ _) 1) ?_
   simp only []
   repeat (first
    | go_big_quiet_skip
    | (go_big_quiet_want; go_big_quiet_op; first
      | go_big_quiet_on
       | (refine ⟨_, fun _ _ => rfl, ?_⟩; go_big_quiet_on)
       | (refine ⟨.int .i64 a.super, ?_, ?_⟩
          ·intro w1 hb
           have e := (hA w1 hb).cell 6
           simp [tyC] at e
           simp [e, go_sem]
           done
          go_big_quiet_on)
       | (refine ⟨.int .i64 b.super, ?_, ?_⟩
          ·intro w1 hb
           have e := (hBb w1 hb).cell 6
           simp [tyC] at e
           simp [e, go_sem]
           done
          go_big_quiet_on)
       | (refine ⟨.slice o1 a.parts.length c1, ?_, ?_⟩
          ·intro w1 hb
           have e := (hA w1 hb).cell 7
           simp [tyC] at e
           simp [e, go_sem]
           done
          go_big_quiet_on)
       | (refine ⟨.slice p1 b.parts.length d1, ?_, ?_⟩
          ·intro w1 hb
           have e := (hBb w1 hb).cell 7
           simp [tyC] at e
           simp [e, go_sem]
           done
          go_big_quiet_on)
       | (refine ⟨.slice o2 a.meths.length c2, ?_, ?_⟩
          ·intro w1 hb
           have e := (hA w1 hb).cell 8
           simp [tyC] at e
           simp [e, go_sem]
           done
          go_big_quiet_on)
       | (refine ⟨.slice p2 b.meths.length d2, ?_, ?_⟩
          ·intro w1 hb
           have e := (hBb w1 hb).cell 8
           simp [tyC] at e
           simp [e, go_sem]
           done
          go_big_quiet_on)
       | (refine ⟨.slice o3 a.overs.length c3, ?_, ?_⟩
          ·intro w1 hb
           have e := (hA w1 hb).cell 9
           simp [tyC] at e
           simp [e, go_sem]
           done
          go_big_quiet_on)
       | (refine ⟨.slice p3 b.overs.length d3, ?_, ?_⟩
          ·intro w1 hb
           have e := (hBb w1 hb).cell 9
           simp [tyC] at e
           simp [e, go_sem]
           done
          go_big_quiet_on)
       | (refine ⟨.func (.func 158) #[] #[], ?_, ?_⟩
          ·intro w1 hb
           have e := (hFt w1 hb).cell 0
           simp at e
           simp [e, go_sem]
           done
          go_big_quiet_on)
       | (refine ⟨tyVal a (.slice o1 a.parts.length c1) (.slice o2 a.meths.length c2) (.slice o3 a.overs.length c3), ?_, ?_⟩
          ·intro w1 hb
           have e0 := (hA w1 hb).cell 0
           have e1 := (hA w1 hb).cell 1
           have e2 := (hA w1 hb).cell 2
           have e3 := (hA w1 hb).cell 3
           have e4 := (hA w1 hb).cell 4
           have e5 := (hA w1 hb).cell 5
           have e6 := (hA w1 hb).cell 6
           have e7 := (hA w1 hb).cell 7
           have e8 := (hA w1 hb).cell 8
           have e9 := (hA w1 hb).cell 9
           simp [tyC] at e0 e1 e2 e3 e4 e5 e6 e7 e8 e9
           simp [e0, e1, e2, e3, e4, e5, e6, e7, e8, e9, tyVal, go_sem]
           done
          go_big_quiet_on)
       | (refine ⟨tyVal b (.slice p1 b.parts.length d1) (.slice p2 b.meths.length d2) (.slice p3 b.overs.length d3), ?_, ?_⟩
          ·intro w1 hb
           have e0 := (hBb w1 hb).cell 0
           have e1 := (hBb w1 hb).cell 1
           have e2 := (hBb w1 hb).cell 2
           have e3 := (hBb w1 hb).cell 3
           have e4 := (hBb w1 hb).cell 4
           have e5 := (hBb w1 hb).cell 5
           have e6 := (hBb w1 hb).cell 6
           have e7 := (hBb w1 hb).cell 7
           have e8 := (hBb w1 hb).cell 8
           have e9 := (hBb w1 hb).cell 9
           simp [tyC] at e0 e1 e2 e3 e4 e5 e6 e7 e8 e9
           simp [e0, e1, e2, e3, e4, e5, e6, e7, e8, e9, tyVal, go_sem]
           done
          go_big_quiet_on)
       | (refine ⟨.agg #[.int .u8 a.kind, .int .i64 a.low, .int .i64 a.high, .bool a.branded, .string a.brand, .string a.opq], ?_, ?_⟩
          ·intro w1 hb
           with_reducible refine (unhide HPa w1 hb).mono ?_
           rintro e w2 ⟨rfl, hb2⟩
           exact ⟨rfl, hb.trans (hb2.mono hb.size)⟩
          go_big_quiet_on)
       | (refine ⟨.agg #[.int .u8 b.kind, .int .i64 b.low, .int .i64 b.high, .bool b.branded, .string b.brand, .string b.opq], ?_, ?_⟩
          ·intro w1 hb
           with_reducible refine (unhide HPb w1 hb).mono ?_
           rintro e w2 ⟨rfl, hb2⟩
           exact ⟨rfl, hb.trans (hb2.mono hb.size)⟩
          go_big_quiet_on)
       | (apply Exists.intro
          refine ⟨fun w1 hb => ?_, ?_⟩
          ·with_reducible refine (unhide HS w1 hb).mono ?_
           rintro e w2 ⟨rfl, hb2⟩
           exact ⟨rfl, hb.trans (hb2.mono hb.size)⟩
          go_big_quiet_on)
       | (apply Exists.intro
          refine ⟨fun w1 hb => ?_, ?_⟩
          ·with_reducible refine (unhide HP w1 hb).mono ?_
           rintro e w2 ⟨rfl, hb2⟩
           exact ⟨rfl, hb.trans (hb2.mono hb.size)⟩
          go_big_quiet_on)
       | (apply Exists.intro
          refine ⟨fun w1 hb => ?_, ?_⟩
          ·with_reducible refine (unhide HM w1 hb).mono ?_
           rintro e w2 ⟨rfl, hb2⟩
           exact ⟨rfl, hb.trans (hb2.mono hb.size)⟩
          go_big_quiet_on)
       | (apply Exists.intro
          refine ⟨fun w1 hb => ?_, ?_⟩
          ·with_reducible refine (unhide HV w1 hb).mono ?_
           rintro e w2 ⟨rfl, hb2⟩
           exact ⟨rfl, hb.trans (hb2.mono hb.size)⟩
          go_big_quiet_on)))
   refine wpQuiet_nil ?_
   rintro w1 hb
   go_wp2
   go_ret
   exact ⟨ret_bool (by rw [HB.out]; simp), hW3.trans (hb.mono hW3.size)⟩
  cases x4
  ·go_enter Tryz.func114, Tryz.ntmps114
   go_wp2_with fail
   rw [← hEQ]
   clear hEQ
   refine wp_region_quiet (C := fun w' => Below W3.heap.size W3 w') (by kernel_rfl) (by kernel_rfl) (below_drewN' (Below.refl _ _) 1) ?_
   simp only []
   repeat (first
    | go_big_quiet_skip
    | (go_big_quiet_want; go_big_quiet_op; first
      | go_big_quiet_on
       | (refine ⟨_, fun _ _ => rfl, ?_⟩; go_big_quiet_on)
       | (refine ⟨.int .i64 a.super, ?_, ?_⟩
          ·intro w1 hb
           have e := (hA w1 hb).cell 6
           simp [tyC] at e
           simp [e, go_sem]
           done
          go_big_quiet_on)
       | (refine ⟨.int .i64 b.super, ?_, ?_⟩
          ·intro w1 hb
           have e := (hBb w1 hb).cell 6
           simp [tyC] at e
           simp [e, go_sem]
           done
          go_big_quiet_on)
       | (refine ⟨.slice o1 a.parts.length c1, ?_, ?_⟩
          ·intro w1 hb
           have e := (hA w1 hb).cell 7
           simp [tyC] at e
           simp [e, go_sem]
           done
          go_big_quiet_on)
       | (refine ⟨.slice p1 b.parts.length d1, ?_, ?_⟩
          ·intro w1 hb
           have e := (hBb w1 hb).cell 7
           simp [tyC] at e
           simp [e, go_sem]
           done
          go_big_quiet_on)
       | (refine ⟨.slice o2 a.meths.length c2, ?_, ?_⟩
          ·intro w1 hb
           have e := (hA w1 hb).cell 8
           simp [tyC] at e
           simp [e, go_sem]
           done
          go_big_quiet_on)
       | (refine ⟨.slice p2 b.meths.length d2, ?_, ?_⟩
          ·intro w1 hb
           have e := (hBb w1 hb).cell 8
           simp [tyC] at e
           simp [e, go_sem]
           done
          go_big_quiet_on)
       | (refine ⟨.slice o3 a.overs.length c3, ?_, ?_⟩
          ·intro w1 hb
           have e := (hA w1 hb).cell 9
           simp [tyC] at e
           simp [e, go_sem]
           done
          go_big_quiet_on)
       | (refine ⟨.slice p3 b.overs.length d3, ?_, ?_⟩
          ·intro w1 hb
           have e := (hBb w1 hb).cell 9
           simp [tyC] at e
           simp [e, go_sem]
           done
          go_big_quiet_on)
       | (refine ⟨.func (.func 158) #[] #[], ?_, ?_⟩
          ·intro w1 hb
           have e := (hFt w1 hb).cell 0
           simp at e
           simp [e, go_sem]
           done
          go_big_quiet_on)
       | (refine ⟨tyVal a (.slice o1 a.parts.length c1) (.slice o2 a.meths.length c2) (.slice o3 a.overs.length c3), ?_, ?_⟩
          ·intro w1 hb
           have e0 := (hA w1 hb).cell 0
           have e1 := (hA w1 hb).cell 1
           have e2 := (hA w1 hb).cell 2
           have e3 := (hA w1 hb).cell 3
           have e4 := (hA w1 hb).cell 4
           have e5 := (hA w1 hb).cell 5
           have e6 := (hA w1 hb).cell 6
           have e7 := (hA w1 hb).cell 7
           have e8 := (hA w1 hb).cell 8
           have e9 := (hA w1 hb).cell 9
           simp [tyC] at e0 e1 e2 e3 e4 e5 e6 e7 e8 e9
           simp [e0, e1, e2, e3, e4, e5, e6, e7, e8, e9, tyVal, go_sem]
           done
          go_big_quiet_on)
       | (refine ⟨tyVal b (.slice p1 b.parts.length d1) (.slice p2 b.meths.length d2) (.slice p3 b.overs.length d3), ?_, ?_⟩
          ·intro w1 hb
           have e0 := (hBb w1 hb).cell 0
           have e1 := (hBb w1 hb).cell 1
           have e2 := (hBb w1 hb).cell 2
           have e3 := (hBb w1 hb).cell 3
           have e4 := (hBb w1 hb).cell 4
           have e5 := (hBb w1 hb).cell 5
           have e6 := (hBb w1 hb).cell 6
           have e7 := (hBb w1 hb).cell 7
           have e8 := (hBb w1 hb).cell 8
           have e9 := (hBb w1 hb).cell 9
           simp [tyC] at e0 e1 e2 e3 e4 e5 e6 e7 e8 e9
           simp [e0, e1, e2, e3, e4, e5, e6, e7, e8, e9, tyVal, go_sem]
           done
          go_big_quiet_on)
       | (refine ⟨.agg #[.int .u8 a.kind, .int .i64 a.low, .int .i64 a.high, .bool a.branded, .string a.brand, .string a.opq], ?_, ?_⟩
          ·intro w1 hb
           with_reducible refine (unhide HPa w1 hb).mono ?_
           rintro e w2 ⟨rfl, hb2⟩
           exact ⟨rfl, hb.trans (hb2.mono hb.size)⟩
          go_big_quiet_on)
       | (refine ⟨.agg #[.int .u8 b.kind, .int .i64 b.low, .int .i64 b.high, .bool b.branded, .string b.brand, .string b.opq], ?_, ?_⟩
          ·intro w1 hb
           with_reducible refine (unhide HPb w1 hb).mono ?_
           rintro e w2 ⟨rfl, hb2⟩
           exact ⟨rfl, hb.trans (hb2.mono hb.size)⟩
          go_big_quiet_on)
       | (apply Exists.intro
          refine ⟨fun w1 hb => ?_, ?_⟩
          ·with_reducible refine (unhide HS w1 hb).mono ?_
           rintro e w2 ⟨rfl, hb2⟩
           exact ⟨rfl, hb.trans (hb2.mono hb.size)⟩
          go_big_quiet_on)
       | (apply Exists.intro
          refine ⟨fun w1 hb => ?_, ?_⟩
          ·with_reducible refine (unhide HP w1 hb).mono ?_
           rintro e w2 ⟨rfl, hb2⟩
           exact ⟨rfl, hb.trans (hb2.mono hb.size)⟩
          go_big_quiet_on)
       | (apply Exists.intro
          refine ⟨fun w1 hb => ?_, ?_⟩
          ·with_reducible refine (unhide HM w1 hb).mono ?_
           rintro e w2 ⟨rfl, hb2⟩
           exact ⟨rfl, hb.trans (hb2.mono hb.size)⟩
          go_big_quiet_on)
       | (apply Exists.intro
          refine ⟨fun w1 hb => ?_, ?_⟩
          ·with_reducible refine (unhide HV w1 hb).mono ?_
           rintro e w2 ⟨rfl, hb2⟩
           exact ⟨rfl, hb.trans (hb2.mono hb.size)⟩
          go_big_quiet_on)))
   refine wpQuiet_nil ?_
   rintro w1 hb
   go_wp2
   go_ret
   exact ⟨ret_bool (by rw [HB.out]; simp), hW3.trans (hb.mono hW3.size)⟩
  cases x5
  ·go_enter Tryz.func114, Tryz.ntmps114
   go_wp2_with fail
   rw [← hEQ]
   clear hEQ
   refine wp_region_quiet (C := fun w' => Below W3.heap.size W3 w') (by kernel_rfl) (by kernel_rfl) (below_drewN' (Below.refl _ _) 1) ?_
   simp only []
   repeat (first
    | go_big_quiet_skip
    | (go_big_quiet_want; go_big_quiet_op; first
      | go_big_quiet_on
       | (refine ⟨_, fun _ _ => rfl, ?_⟩; go_big_quiet_on)
       | (refine ⟨.int .i64 a.super, ?_, ?_⟩
          ·intro w1 hb
           have e := (hA w1 hb).cell 6
           simp [tyC] at e
           simp [e, go_sem]
           done
          go_big_quiet_on)
       | (refine ⟨.int .i64 b.super, ?_, ?_⟩
          ·intro w1 hb
           have e := (hBb w1 hb).cell 6
           simp [tyC] at e
           simp [e, go_sem]
           done
          go_big_quiet_on)
       | (refine ⟨.slice o1 a.parts.length c1, ?_, ?_⟩
          ·intro w1 hb
           have e := (hA w1 hb).cell 7
           simp [tyC] at e
           simp [e, go_sem]
           done
          go_big_quiet_on)
       | (refine ⟨.slice p1 b.parts.length d1, ?_, ?_⟩
          ·intro w1 hb
           have e := (hBb w1 hb).cell 7
           simp [tyC] at e
           simp [e, go_sem]
           done
          go_big_quiet_on)
       | (refine ⟨.slice o2 a.meths.length c2, ?_, ?_⟩
          ·intro w1 hb
           have e := (hA w1 hb).cell 8
           simp [tyC] at e
           simp [e, go_sem]
           done
          go_big_quiet_on)
       | (refine ⟨.slice p2 b.meths.length d2, ?_, ?_⟩
          ·intro w1 hb
           have e := (hBb w1 hb).cell 8
           simp [tyC] at e
           simp [e, go_sem]
           done
          go_big_quiet_on)
       | (refine ⟨.slice o3 a.overs.length c3, ?_, ?_⟩
          ·intro w1 hb
           have e := (hA w1 hb).cell 9
           simp [tyC] at e
           simp [e, go_sem]
           done
          go_big_quiet_on)
       | (refine ⟨.slice p3 b.overs.length d3, ?_, ?_⟩
          ·intro w1 hb
           have e := (hBb w1 hb).cell 9
           simp [tyC] at e
           simp [e, go_sem]
           done
          go_big_quiet_on)
       | (refine ⟨.func (.func 158) #[] #[], ?_, ?_⟩
          ·intro w1 hb
           have e := (hFt w1 hb).cell 0
           simp at e
           simp [e, go_sem]
           done
          go_big_quiet_on)
       | (refine ⟨tyVal a (.slice o1 a.parts.length c1) (.slice o2 a.meths.length c2) (.slice o3 a.overs.length c3), ?_, ?_⟩
          ·intro w1 hb
           have e0 := (hA w1 hb).cell 0
           have e1 := (hA w1 hb).cell 1
           have e2 := (hA w1 hb).cell 2
           have e3 := (hA w1 hb).cell 3
           have e4 := (hA w1 hb).cell 4
           have e5 := (hA w1 hb).cell 5
           have e6 := (hA w1 hb).cell 6
           have e7 := (hA w1 hb).cell 7
           have e8 := (hA w1 hb).cell 8
           have e9 := (hA w1 hb).cell 9
           simp [tyC] at e0 e1 e2 e3 e4 e5 e6 e7 e8 e9
           simp [e0, e1, e2, e3, e4, e5, e6, e7, e8, e9, tyVal, go_sem]
           done
          go_big_quiet_on)
       | (refine ⟨tyVal b (.slice p1 b.parts.length d1) (.slice p2 b.meths.length d2) (.slice p3 b.overs.length d3), ?_, ?_⟩
          ·intro w1 hb
           have e0 := (hBb w1 hb).cell 0
           have e1 := (hBb w1 hb).cell 1
           have e2 := (hBb w1 hb).cell 2
           have e3 := (hBb w1 hb).cell 3
           have e4 := (hBb w1 hb).cell 4
           have e5 := (hBb w1 hb).cell 5
           have e6 := (hBb w1 hb).cell 6
           have e7 := (hBb w1 hb).cell 7
           have e8 := (hBb w1 hb).cell 8
           have e9 := (hBb w1 hb).cell 9
           simp [tyC] at e0 e1 e2 e3 e4 e5 e6 e7 e8 e9
           simp [e0, e1, e2, e3, e4, e5, e6, e7, e8, e9, tyVal, go_sem]
           done
          go_big_quiet_on)
       | (refine ⟨.agg #[.int .u8 a.kind, .int .i64 a.low, .int .i64 a.high, .bool a.branded, .string a.brand, .string a.opq], ?_, ?_⟩
          ·intro w1 hb
           with_reducible refine (unhide HPa w1 hb).mono ?_
           rintro e w2 ⟨rfl, hb2⟩
           exact ⟨rfl, hb.trans (hb2.mono hb.size)⟩
          go_big_quiet_on)
       | (refine ⟨.agg #[.int .u8 b.kind, .int .i64 b.low, .int .i64 b.high, .bool b.branded, .string b.brand, .string b.opq], ?_, ?_⟩
          ·intro w1 hb
           with_reducible refine (unhide HPb w1 hb).mono ?_
           rintro e w2 ⟨rfl, hb2⟩
           exact ⟨rfl, hb.trans (hb2.mono hb.size)⟩
          go_big_quiet_on)
       | (apply Exists.intro
          refine ⟨fun w1 hb => ?_, ?_⟩
          ·with_reducible refine (unhide HS w1 hb).mono ?_
           rintro e w2 ⟨rfl, hb2⟩
           exact ⟨rfl, hb.trans (hb2.mono hb.size)⟩
          go_big_quiet_on)
       | (apply Exists.intro
          refine ⟨fun w1 hb => ?_, ?_⟩
          ·with_reducible refine (unhide HP w1 hb).mono ?_
           rintro e w2 ⟨rfl, hb2⟩
           exact ⟨rfl, hb.trans (hb2.mono hb.size)⟩
          go_big_quiet_on)
       | (apply Exists.intro
          refine ⟨fun w1 hb => ?_, ?_⟩
          ·with_reducible refine (unhide HM w1 hb).mono ?_
           rintro e w2 ⟨rfl, hb2⟩
           exact ⟨rfl, hb.trans (hb2.mono hb.size)⟩
          go_big_quiet_on)
       | (apply Exists.intro
          refine ⟨fun w1 hb => ?_, ?_⟩
          ·with_reducible refine (unhide HV w1 hb).mono ?_
           rintro e w2 ⟨rfl, hb2⟩
           exact ⟨rfl, hb.trans (hb2.mono hb.size)⟩
          go_big_quiet_on)))
   refine wpQuiet_nil ?_
   rintro w1 hb
   go_wp2
   go_ret
   exact ⟨ret_bool (by rw [HB.out]; simp), hW3.trans (hb.mono hW3.size)⟩
  cases x6
  ·go_enter Tryz.func114, Tryz.ntmps114
   go_wp2_with fail
   rw [← hEQ]
   clear hEQ
   refine wp_region_quiet (C := fun w' => Below W3.heap.size W3 w') (by kernel_rfl) (by kernel_rfl) (below_drewN' (Below.refl _ _) 1) ?_
   simp only []
   repeat (first
    | go_big_quiet_skip
    | (go_big_quiet_want; go_big_quiet_op; first
      | go_big_quiet_on
       | (refine ⟨_, fun _ _ => rfl, ?_⟩; go_big_quiet_on)
       | (refine ⟨.int .i64 a.super, ?_, ?_⟩
          ·intro w1 hb
           have e := (hA w1 hb).cell 6
           simp [tyC] at e
           simp [e, go_sem]
           done
          go_big_quiet_on)
       | (refine ⟨.int .i64 b.super, ?_, ?_⟩
          ·intro w1 hb
           have e := (hBb w1 hb).cell 6
           simp [tyC] at e
           simp [e, go_sem]
           done
          go_big_quiet_on)
       | (refine ⟨.slice o1 a.parts.length c1, ?_, ?_⟩
          ·intro w1 hb
           have e := (hA w1 hb).cell 7
           simp [tyC] at e
           simp [e, go_sem]
           done
          go_big_quiet_on)
       | (refine ⟨.slice p1 b.parts.length d1, ?_, ?_⟩
          ·intro w1 hb
           have e := (hBb w1 hb).cell 7
           simp [tyC] at e
           simp [e, go_sem]
           done
          go_big_quiet_on)
       | (refine ⟨.slice o2 a.meths.length c2, ?_, ?_⟩
          ·intro w1 hb
           have e := (hA w1 hb).cell 8
           simp [tyC] at e
           simp [e, go_sem]
           done
          go_big_quiet_on)
       | (refine ⟨.slice p2 b.meths.length d2, ?_, ?_⟩
          ·intro w1 hb
           have e := (hBb w1 hb).cell 8
           simp [tyC] at e
           simp [e, go_sem]
           done
          go_big_quiet_on)
       | (refine ⟨.slice o3 a.overs.length c3, ?_, ?_⟩
          ·intro w1 hb
           have e := (hA w1 hb).cell 9
           simp [tyC] at e
           simp [e, go_sem]
           done
          go_big_quiet_on)
       | (refine ⟨.slice p3 b.overs.length d3, ?_, ?_⟩
          ·intro w1 hb
           have e := (hBb w1 hb).cell 9
           simp [tyC] at e
           simp [e, go_sem]
           done
          go_big_quiet_on)
       | (refine ⟨.func (.func 158) #[] #[], ?_, ?_⟩
          ·intro w1 hb
           have e := (hFt w1 hb).cell 0
           simp at e
           simp [e, go_sem]
           done
          go_big_quiet_on)
       | (refine ⟨tyVal a (.slice o1 a.parts.length c1) (.slice o2 a.meths.length c2) (.slice o3 a.overs.length c3), ?_, ?_⟩
          ·intro w1 hb
           have e0 := (hA w1 hb).cell 0
           have e1 := (hA w1 hb).cell 1
           have e2 := (hA w1 hb).cell 2
           have e3 := (hA w1 hb).cell 3
           have e4 := (hA w1 hb).cell 4
           have e5 := (hA w1 hb).cell 5
           have e6 := (hA w1 hb).cell 6
           have e7 := (hA w1 hb).cell 7
           have e8 := (hA w1 hb).cell 8
           have e9 := (hA w1 hb).cell 9
           simp [tyC] at e0 e1 e2 e3 e4 e5 e6 e7 e8 e9
           simp [e0, e1, e2, e3, e4, e5, e6, e7, e8, e9, tyVal, go_sem]
           done
          go_big_quiet_on)
       | (refine ⟨tyVal b (.slice p1 b.parts.length d1) (.slice p2 b.meths.length d2) (.slice p3 b.overs.length d3), ?_, ?_⟩
          ·intro w1 hb
           have e0 := (hBb w1 hb).cell 0
           have e1 := (hBb w1 hb).cell 1
           have e2 := (hBb w1 hb).cell 2
           have e3 := (hBb w1 hb).cell 3
           have e4 := (hBb w1 hb).cell 4
           have e5 := (hBb w1 hb).cell 5
           have e6 := (hBb w1 hb).cell 6
           have e7 := (hBb w1 hb).cell 7
           have e8 := (hBb w1 hb).cell 8
           have e9 := (hBb w1 hb).cell 9
           simp [tyC] at e0 e1 e2 e3 e4 e5 e6 e7 e8 e9
           simp [e0, e1, e2, e3, e4, e5, e6, e7, e8, e9, tyVal, go_sem]
           done
          go_big_quiet_on)
       | (refine ⟨.agg #[.int .u8 a.kind, .int .i64 a.low, .int .i64 a.high, .bool a.branded, .string a.brand, .string a.opq], ?_, ?_⟩
          ·intro w1 hb
           with_reducible refine (unhide HPa w1 hb).mono ?_
           rintro e w2 ⟨rfl, hb2⟩
           exact ⟨rfl, hb.trans (hb2.mono hb.size)⟩
          go_big_quiet_on)
       | (refine ⟨.agg #[.int .u8 b.kind, .int .i64 b.low, .int .i64 b.high, .bool b.branded, .string b.brand, .string b.opq], ?_, ?_⟩
          ·intro w1 hb
           with_reducible refine (unhide HPb w1 hb).mono ?_
           rintro e w2 ⟨rfl, hb2⟩
           exact ⟨rfl, hb.trans (hb2.mono hb.size)⟩
          go_big_quiet_on)
       | (apply Exists.intro
          refine ⟨fun w1 hb => ?_, ?_⟩
          ·with_reducible refine (unhide HS w1 hb).mono ?_
           rintro e w2 ⟨rfl, hb2⟩
           exact ⟨rfl, hb.trans (hb2.mono hb.size)⟩
          go_big_quiet_on)
       | (apply Exists.intro
          refine ⟨fun w1 hb => ?_, ?_⟩
          ·with_reducible refine (unhide HP w1 hb).mono ?_
           rintro e w2 ⟨rfl, hb2⟩
           exact ⟨rfl, hb.trans (hb2.mono hb.size)⟩
          go_big_quiet_on)
       | (apply Exists.intro
          refine ⟨fun w1 hb => ?_, ?_⟩
          ·with_reducible refine (unhide HM w1 hb).mono ?_
           rintro e w2 ⟨rfl, hb2⟩
           exact ⟨rfl, hb.trans (hb2.mono hb.size)⟩
          go_big_quiet_on)
       | (apply Exists.intro
          refine ⟨fun w1 hb => ?_, ?_⟩
          ·with_reducible refine (unhide HV w1 hb).mono ?_
           rintro e w2 ⟨rfl, hb2⟩
           exact ⟨rfl, hb.trans (hb2.mono hb.size)⟩
          go_big_quiet_on)))
   refine wpQuiet_nil ?_
   rintro w1 hb
   go_wp2
   go_ret
   exact ⟨ret_bool (by rw [HB.out]; simp), hW3.trans (hb.mono hW3.size)⟩
  cases s
  ·go_enter Tryz.func114, Tryz.ntmps114
   go_wp2_with fail
   rw [← hEQ]
   clear hEQ
   refine wp_region_quiet (C := fun w' => Below W3.heap.size W3 w') (by kernel_rfl) (by kernel_rfl) (below_drewN' (Below.refl _ _) 1) ?_
   simp only []
   repeat (first
    | go_big_quiet_skip
    | (go_big_quiet_want; go_big_quiet_op; first
      | go_big_quiet_on
       | (refine ⟨_, fun _ _ => rfl, ?_⟩; go_big_quiet_on)
       | (refine ⟨.int .i64 a.super, ?_, ?_⟩
          ·intro w1 hb
           have e := (hA w1 hb).cell 6
           simp [tyC] at e
           simp [e, go_sem]
           done
          go_big_quiet_on)
       | (refine ⟨.int .i64 b.super, ?_, ?_⟩
          ·intro w1 hb
           have e := (hBb w1 hb).cell 6
           simp [tyC] at e
           simp [e, go_sem]
           done
          go_big_quiet_on)
       | (refine ⟨.slice o1 a.parts.length c1, ?_, ?_⟩
          ·intro w1 hb
           have e := (hA w1 hb).cell 7
           simp [tyC] at e
           simp [e, go_sem]
           done
          go_big_quiet_on)
       | (refine ⟨.slice p1 b.parts.length d1, ?_, ?_⟩
          ·intro w1 hb
           have e := (hBb w1 hb).cell 7
           simp [tyC] at e
           simp [e, go_sem]
           done
          go_big_quiet_on)
       | (refine ⟨.slice o2 a.meths.length c2, ?_, ?_⟩
          ·intro w1 hb
           have e := (hA w1 hb).cell 8
           simp [tyC] at e
           simp [e, go_sem]
           done
          go_big_quiet_on)
       | (refine ⟨.slice p2 b.meths.length d2, ?_, ?_⟩
          ·intro w1 hb
           have e := (hBb w1 hb).cell 8
           simp [tyC] at e
           simp [e, go_sem]
           done
          go_big_quiet_on)
       | (refine ⟨.slice o3 a.overs.length c3, ?_, ?_⟩
          ·intro w1 hb
           have e := (hA w1 hb).cell 9
           simp [tyC] at e
           simp [e, go_sem]
           done
          go_big_quiet_on)
       | (refine ⟨.slice p3 b.overs.length d3, ?_, ?_⟩
          ·intro w1 hb
           have e := (hBb w1 hb).cell 9
           simp [tyC] at e
           simp [e, go_sem]
           done
          go_big_quiet_on)
       | (refine ⟨.func (.func 158) #[] #[], ?_, ?_⟩
          ·intro w1 hb
           have e := (hFt w1 hb).cell 0
           simp at e
           simp [e, go_sem]
           done
          go_big_quiet_on)
       | (refine ⟨tyVal a (.slice o1 a.parts.length c1) (.slice o2 a.meths.length c2) (.slice o3 a.overs.length c3), ?_, ?_⟩
          ·intro w1 hb
           have e0 := (hA w1 hb).cell 0
           have e1 := (hA w1 hb).cell 1
           have e2 := (hA w1 hb).cell 2
           have e3 := (hA w1 hb).cell 3
           have e4 := (hA w1 hb).cell 4
           have e5 := (hA w1 hb).cell 5
           have e6 := (hA w1 hb).cell 6
           have e7 := (hA w1 hb).cell 7
           have e8 := (hA w1 hb).cell 8
           have e9 := (hA w1 hb).cell 9
           simp [tyC] at e0 e1 e2 e3 e4 e5 e6 e7 e8 e9
           simp [e0, e1, e2, e3, e4, e5, e6, e7, e8, e9, tyVal, go_sem]
           done
          go_big_quiet_on)
       | (refine ⟨tyVal b (.slice p1 b.parts.length d1) (.slice p2 b.meths.length d2) (.slice p3 b.overs.length d3), ?_, ?_⟩
          ·intro w1 hb
           have e0 := (hBb w1 hb).cell 0
           have e1 := (hBb w1 hb).cell 1
           have e2 := (hBb w1 hb).cell 2
           have e3 := (hBb w1 hb).cell 3
           have e4 := (hBb w1 hb).cell 4
           have e5 := (hBb w1 hb).cell 5
           have e6 := (hBb w1 hb).cell 6
           have e7 := (hBb w1 hb).cell 7
           have e8 := (hBb w1 hb).cell 8
           have e9 := (hBb w1 hb).cell 9
           simp [tyC] at e0 e1 e2 e3 e4 e5 e6 e7 e8 e9
           simp [e0, e1, e2, e3, e4, e5, e6, e7, e8, e9, tyVal, go_sem]
           done
          go_big_quiet_on)
       | (refine ⟨.agg #[.int .u8 a.kind, .int .i64 a.low, .int .i64 a.high, .bool a.branded, .string a.brand, .string a.opq], ?_, ?_⟩
          ·intro w1 hb
           with_reducible refine (unhide HPa w1 hb).mono ?_
           rintro e w2 ⟨rfl, hb2⟩
           exact ⟨rfl, hb.trans (hb2.mono hb.size)⟩
          go_big_quiet_on)
       | (refine ⟨.agg #[.int .u8 b.kind, .int .i64 b.low, .int .i64 b.high, .bool b.branded, .string b.brand, .string b.opq], ?_, ?_⟩
          ·intro w1 hb
           with_reducible refine (unhide HPb w1 hb).mono ?_
           rintro e w2 ⟨rfl, hb2⟩
           exact ⟨rfl, hb.trans (hb2.mono hb.size)⟩
          go_big_quiet_on)
       | (apply Exists.intro
          refine ⟨fun w1 hb => ?_, ?_⟩
          ·with_reducible refine (unhide HS w1 hb).mono ?_
           rintro e w2 ⟨rfl, hb2⟩
           exact ⟨rfl, hb.trans (hb2.mono hb.size)⟩
          go_big_quiet_on)
       | (apply Exists.intro
          refine ⟨fun w1 hb => ?_, ?_⟩
          ·with_reducible refine (unhide HP w1 hb).mono ?_
           rintro e w2 ⟨rfl, hb2⟩
           exact ⟨rfl, hb.trans (hb2.mono hb.size)⟩
          go_big_quiet_on)
       | (apply Exists.intro
          refine ⟨fun w1 hb => ?_, ?_⟩
          ·with_reducible refine (unhide HM w1 hb).mono ?_
           rintro e w2 ⟨rfl, hb2⟩
           exact ⟨rfl, hb.trans (hb2.mono hb.size)⟩
          go_big_quiet_on)
       | (apply Exists.intro
          refine ⟨fun w1 hb => ?_, ?_⟩
          ·with_reducible refine (unhide HV w1 hb).mono ?_
           rintro e w2 ⟨rfl, hb2⟩
           exact ⟨rfl, hb.trans (hb2.mono hb.size)⟩
          go_big_quiet_on)))
   refine wpQuiet_nil ?_
   rintro w1 hb
   go_wp2
   go_ret
   exact ⟨ret_bool (by rw [HB.out]; simp), hW3.trans (hb.mono hW3.size)⟩
  cases pp
  ·go_enter Tryz.func114, Tryz.ntmps114
   go_wp2_with fail
   rw [← hEQ]
   clear hEQ
   refine wp_region_quiet (C := fun w' => Below W3.heap.size W3 w') (by kernel_rfl) (by kernel_rfl) (below_drewN' (Below.refl _ _) 1) ?_
   simp only []
   repeat (first
    | go_big_quiet_skip
    | (go_big_quiet_want; go_big_quiet_op; first
      | go_big_quiet_on
       | (refine ⟨_, fun _ _ => rfl, ?_⟩; go_big_quiet_on)
       | (refine ⟨.int .i64 a.super, ?_, ?_⟩
          ·intro w1 hb
           have e := (hA w1 hb).cell 6
           simp [tyC] at e
           simp [e, go_sem]
           done
          go_big_quiet_on)
       | (refine ⟨.int .i64 b.super, ?_, ?_⟩
          ·intro w1 hb
           have e := (hBb w1 hb).cell 6
           simp [tyC] at e
           simp [e, go_sem]
           done
          go_big_quiet_on)
       | (refine ⟨.slice o1 a.parts.length c1, ?_, ?_⟩
          ·intro w1 hb
           have e := (hA w1 hb).cell 7
           simp [tyC] at e
           simp [e, go_sem]
           done
          go_big_quiet_on)
       | (refine ⟨.slice p1 b.parts.length d1, ?_, ?_⟩
          ·intro w1 hb
           have e := (hBb w1 hb).cell 7
           simp [tyC] at e
           simp [e, go_sem]
           done
          go_big_quiet_on)
       | (refine ⟨.slice o2 a.meths.length c2, ?_, ?_⟩
          ·intro w1 hb
           have e := (hA w1 hb).cell 8
           simp [tyC] at e
           simp [e, go_sem]
           done
          go_big_quiet_on)
       | (refine ⟨.slice p2 b.meths.length d2, ?_, ?_⟩
          ·intro w1 hb
           have e := (hBb w1 hb).cell 8
           simp [tyC] at e
           simp [e, go_sem]
           done
          go_big_quiet_on)
       | (refine ⟨.slice o3 a.overs.length c3, ?_, ?_⟩
          ·intro w1 hb
           have e := (hA w1 hb).cell 9
           simp [tyC] at e
           simp [e, go_sem]
           done
          go_big_quiet_on)
       | (refine ⟨.slice p3 b.overs.length d3, ?_, ?_⟩
          ·intro w1 hb
           have e := (hBb w1 hb).cell 9
           simp [tyC] at e
           simp [e, go_sem]
           done
          go_big_quiet_on)
       | (refine ⟨.func (.func 158) #[] #[], ?_, ?_⟩
          ·intro w1 hb
           have e := (hFt w1 hb).cell 0
           simp at e
           simp [e, go_sem]
           done
          go_big_quiet_on)
       | (refine ⟨tyVal a (.slice o1 a.parts.length c1) (.slice o2 a.meths.length c2) (.slice o3 a.overs.length c3), ?_, ?_⟩
          ·intro w1 hb
           have e0 := (hA w1 hb).cell 0
           have e1 := (hA w1 hb).cell 1
           have e2 := (hA w1 hb).cell 2
           have e3 := (hA w1 hb).cell 3
           have e4 := (hA w1 hb).cell 4
           have e5 := (hA w1 hb).cell 5
           have e6 := (hA w1 hb).cell 6
           have e7 := (hA w1 hb).cell 7
           have e8 := (hA w1 hb).cell 8
           have e9 := (hA w1 hb).cell 9
           simp [tyC] at e0 e1 e2 e3 e4 e5 e6 e7 e8 e9
           simp [e0, e1, e2, e3, e4, e5, e6, e7, e8, e9, tyVal, go_sem]
           done
          go_big_quiet_on)
       | (refine ⟨tyVal b (.slice p1 b.parts.length d1) (.slice p2 b.meths.length d2) (.slice p3 b.overs.length d3), ?_, ?_⟩
          ·intro w1 hb
           have e0 := (hBb w1 hb).cell 0
           have e1 := (hBb w1 hb).cell 1
           have e2 := (hBb w1 hb).cell 2
           have e3 := (hBb w1 hb).cell 3
           have e4 := (hBb w1 hb).cell 4
           have e5 := (hBb w1 hb).cell 5
           have e6 := (hBb w1 hb).cell 6
           have e7 := (hBb w1 hb).cell 7
           have e8 := (hBb w1 hb).cell 8
           have e9 := (hBb w1 hb).cell 9
           simp [tyC] at e0 e1 e2 e3 e4 e5 e6 e7 e8 e9
           simp [e0, e1, e2, e3, e4, e5, e6, e7, e8, e9, tyVal, go_sem]
           done
          go_big_quiet_on)
       | (refine ⟨.agg #[.int .u8 a.kind, .int .i64 a.low, .int .i64 a.high, .bool a.branded, .string a.brand, .string a.opq], ?_, ?_⟩
          ·intro w1 hb
           with_reducible refine (unhide HPa w1 hb).mono ?_
           rintro e w2 ⟨rfl, hb2⟩
           exact ⟨rfl, hb.trans (hb2.mono hb.size)⟩
          go_big_quiet_on)
       | (refine ⟨.agg #[.int .u8 b.kind, .int .i64 b.low, .int .i64 b.high, .bool b.branded, .string b.brand, .string b.opq], ?_, ?_⟩
          ·intro w1 hb
           with_reducible refine (unhide HPb w1 hb).mono ?_
           rintro e w2 ⟨rfl, hb2⟩
           exact ⟨rfl, hb.trans (hb2.mono hb.size)⟩
          go_big_quiet_on)
       | (apply Exists.intro
          refine ⟨fun w1 hb => ?_, ?_⟩
          ·with_reducible refine (unhide HS w1 hb).mono ?_
           rintro e w2 ⟨rfl, hb2⟩
           exact ⟨rfl, hb.trans (hb2.mono hb.size)⟩
          go_big_quiet_on)
       | (apply Exists.intro
          refine ⟨fun w1 hb => ?_, ?_⟩
          ·with_reducible refine (unhide HP w1 hb).mono ?_
           rintro e w2 ⟨rfl, hb2⟩
           exact ⟨rfl, hb.trans (hb2.mono hb.size)⟩
          go_big_quiet_on)
       | (apply Exists.intro
          refine ⟨fun w1 hb => ?_, ?_⟩
          ·with_reducible refine (unhide HM w1 hb).mono ?_
           rintro e w2 ⟨rfl, hb2⟩
           exact ⟨rfl, hb.trans (hb2.mono hb.size)⟩
          go_big_quiet_on)
       | (apply Exists.intro
          refine ⟨fun w1 hb => ?_, ?_⟩
          ·with_reducible refine (unhide HV w1 hb).mono ?_
           rintro e w2 ⟨rfl, hb2⟩
           exact ⟨rfl, hb.trans (hb2.mono hb.size)⟩
          go_big_quiet_on)))
   refine wpQuiet_nil ?_
   rintro w1 hb
   go_wp2
   go_ret
   exact ⟨ret_bool (by rw [HB.out]; simp), hW3.trans (hb.mono hW3.size)⟩
  cases mm
  ·go_enter Tryz.func114, Tryz.ntmps114
   go_wp2_with fail
   rw [← hEQ]
   clear hEQ
   refine wp_region_quiet (C := fun w' => Below W3.heap.size W3 w') (by kernel_rfl) (by kernel_rfl) (below_drewN' (Below.refl _ _) 1) ?_
   simp only []
   repeat (first
    | go_big_quiet_skip
    | (go_big_quiet_want; go_big_quiet_op; first
      | go_big_quiet_on
       | (refine ⟨_, fun _ _ => rfl, ?_⟩; go_big_quiet_on)
       | (refine ⟨.int .i64 a.super, ?_, ?_⟩
          ·intro w1 hb
           have e := (hA w1 hb).cell 6
           simp [tyC] at e
           simp [e, go_sem]
           done
          go_big_quiet_on)
       | (refine ⟨.int .i64 b.super, ?_, ?_⟩
          ·intro w1 hb
           have e := (hBb w1 hb).cell 6
           simp [tyC] at e
           simp [e, go_sem]
           done
          go_big_quiet_on)
       | (refine ⟨.slice o1 a.parts.length c1, ?_, ?_⟩
          ·intro w1 hb
           have e := (hA w1 hb).cell 7
           simp [tyC] at e
           simp [e, go_sem]
           done
          go_big_quiet_on)
       | (refine ⟨.slice p1 b.parts.length d1, ?_, ?_⟩
          ·intro w1 hb
           have e := (hBb w1 hb).cell 7
           simp [tyC] at e
           simp [e, go_sem]
           done
          go_big_quiet_on)
       | (refine ⟨.slice o2 a.meths.length c2, ?_, ?_⟩
          ·intro w1 hb
           have e := (hA w1 hb).cell 8
           simp [tyC] at e
           simp [e, go_sem]
           done
          go_big_quiet_on)
       | (refine ⟨.slice p2 b.meths.length d2, ?_, ?_⟩
          ·intro w1 hb
           have e := (hBb w1 hb).cell 8
           simp [tyC] at e
           simp [e, go_sem]
           done
          go_big_quiet_on)
       | (refine ⟨.slice o3 a.overs.length c3, ?_, ?_⟩
          ·intro w1 hb
           have e := (hA w1 hb).cell 9
           simp [tyC] at e
           simp [e, go_sem]
           done
          go_big_quiet_on)
       | (refine ⟨.slice p3 b.overs.length d3, ?_, ?_⟩
          ·intro w1 hb
           have e := (hBb w1 hb).cell 9
           simp [tyC] at e
           simp [e, go_sem]
           done
          go_big_quiet_on)
       | (refine ⟨.func (.func 158) #[] #[], ?_, ?_⟩
          ·intro w1 hb
           have e := (hFt w1 hb).cell 0
           simp at e
           simp [e, go_sem]
           done
          go_big_quiet_on)
       | (refine ⟨tyVal a (.slice o1 a.parts.length c1) (.slice o2 a.meths.length c2) (.slice o3 a.overs.length c3), ?_, ?_⟩
          ·intro w1 hb
           have e0 := (hA w1 hb).cell 0
           have e1 := (hA w1 hb).cell 1
           have e2 := (hA w1 hb).cell 2
           have e3 := (hA w1 hb).cell 3
           have e4 := (hA w1 hb).cell 4
           have e5 := (hA w1 hb).cell 5
           have e6 := (hA w1 hb).cell 6
           have e7 := (hA w1 hb).cell 7
           have e8 := (hA w1 hb).cell 8
           have e9 := (hA w1 hb).cell 9
           simp [tyC] at e0 e1 e2 e3 e4 e5 e6 e7 e8 e9
           simp [e0, e1, e2, e3, e4, e5, e6, e7, e8, e9, tyVal, go_sem]
           done
          go_big_quiet_on)
       | (refine ⟨tyVal b (.slice p1 b.parts.length d1) (.slice p2 b.meths.length d2) (.slice p3 b.overs.length d3), ?_, ?_⟩
          ·intro w1 hb
           have e0 := (hBb w1 hb).cell 0
           have e1 := (hBb w1 hb).cell 1
           have e2 := (hBb w1 hb).cell 2
           have e3 := (hBb w1 hb).cell 3
           have e4 := (hBb w1 hb).cell 4
           have e5 := (hBb w1 hb).cell 5
           have e6 := (hBb w1 hb).cell 6
           have e7 := (hBb w1 hb).cell 7
           have e8 := (hBb w1 hb).cell 8
           have e9 := (hBb w1 hb).cell 9
           simp [tyC] at e0 e1 e2 e3 e4 e5 e6 e7 e8 e9
           simp [e0, e1, e2, e3, e4, e5, e6, e7, e8, e9, tyVal, go_sem]
           done
          go_big_quiet_on)
       | (refine ⟨.agg #[.int .u8 a.kind, .int .i64 a.low, .int .i64 a.high, .bool a.branded, .string a.brand, .string a.opq], ?_, ?_⟩
          ·intro w1 hb
           with_reducible refine (unhide HPa w1 hb).mono ?_
           rintro e w2 ⟨rfl, hb2⟩
           exact ⟨rfl, hb.trans (hb2.mono hb.size)⟩
          go_big_quiet_on)
       | (refine ⟨.agg #[.int .u8 b.kind, .int .i64 b.low, .int .i64 b.high, .bool b.branded, .string b.brand, .string b.opq], ?_, ?_⟩
          ·intro w1 hb
           with_reducible refine (unhide HPb w1 hb).mono ?_
           rintro e w2 ⟨rfl, hb2⟩
           exact ⟨rfl, hb.trans (hb2.mono hb.size)⟩
          go_big_quiet_on)
       | (apply Exists.intro
          refine ⟨fun w1 hb => ?_, ?_⟩
          ·with_reducible refine (unhide HS w1 hb).mono ?_
           rintro e w2 ⟨rfl, hb2⟩
           exact ⟨rfl, hb.trans (hb2.mono hb.size)⟩
          go_big_quiet_on)
       | (apply Exists.intro
          refine ⟨fun w1 hb => ?_, ?_⟩
          ·with_reducible refine (unhide HP w1 hb).mono ?_
           rintro e w2 ⟨rfl, hb2⟩
           exact ⟨rfl, hb.trans (hb2.mono hb.size)⟩
          go_big_quiet_on)
       | (apply Exists.intro
          refine ⟨fun w1 hb => ?_, ?_⟩
          ·with_reducible refine (unhide HM w1 hb).mono ?_
           rintro e w2 ⟨rfl, hb2⟩
           exact ⟨rfl, hb.trans (hb2.mono hb.size)⟩
          go_big_quiet_on)
       | (apply Exists.intro
          refine ⟨fun w1 hb => ?_, ?_⟩
          ·with_reducible refine (unhide HV w1 hb).mono ?_
           rintro e w2 ⟨rfl, hb2⟩
           exact ⟨rfl, hb.trans (hb2.mono hb.size)⟩
          go_big_quiet_on)))
   refine wpQuiet_nil ?_
   rintro w1 hb
   go_wp2
   go_ret
   exact ⟨ret_bool (by rw [HB.out]; simp), hW3.trans (hb.mono hW3.size)⟩
  go_enter Tryz.func114, Tryz.ntmps114
  go_wp2_with fail
  rw [← hEQ]
  clear hEQ
  refine wp_region_quiet (C := fun w' => Below W3.heap.size W3 w') (by kernel_rfl) (by kernel_rfl) (below_drewN' (Below.refl _ _) 1) ?_
  simp only []
  repeat (first
   | go_big_quiet_skip
   | (go_big_quiet_want; go_big_quiet_op; first
     | go_big_quiet_on
      | (refine ⟨_, fun _ _ => rfl, ?_⟩; go_big_quiet_on)
      | (refine ⟨.int .i64 a.super, ?_, ?_⟩
         ·intro w1 hb
          have e := (hA w1 hb).cell 6
          simp [tyC] at e
          simp [e, go_sem]
          done
         go_big_quiet_on)
      | (refine ⟨.int .i64 b.super, ?_, ?_⟩
         ·intro w1 hb
          have e := (hBb w1 hb).cell 6
          simp [tyC] at e
          simp [e, go_sem]
          done
         go_big_quiet_on)
      | (refine ⟨.slice o1 a.parts.length c1, ?_, ?_⟩
         ·intro w1 hb
          have e := (hA w1 hb).cell 7
          simp [tyC] at e
          simp [e, go_sem]
          done
         go_big_quiet_on)
      | (refine ⟨.slice p1 b.parts.length d1, ?_, ?_⟩
         ·intro w1 hb
          have e := (hBb w1 hb).cell 7
          simp [tyC] at e
          simp [e, go_sem]
          done
         go_big_quiet_on)
      | (refine ⟨.slice o2 a.meths.length c2, ?_, ?_⟩
         ·intro w1 hb
          have e := (hA w1 hb).cell 8
          simp [tyC] at e
          simp [e, go_sem]
          done
         go_big_quiet_on)
      | (refine ⟨.slice p2 b.meths.length d2, ?_, ?_⟩
         ·intro w1 hb
          have e := (hBb w1 hb).cell 8
          simp [tyC] at e
          simp [e, go_sem]
          done
         go_big_quiet_on)
      | (refine ⟨.slice o3 a.overs.length c3, ?_, ?_⟩
         ·intro w1 hb
          have e := (hA w1 hb).cell 9
          simp [tyC] at e
          simp [e, go_sem]
          done
         go_big_quiet_on)
      | (refine ⟨.slice p3 b.overs.length d3, ?_, ?_⟩
         ·intro w1 hb
          have e := (hBb w1 hb).cell 9
          simp [tyC] at e
          simp [e, go_sem]
          done
         go_big_quiet_on)
      | (refine ⟨.func (.func 158) #[] #[], ?_, ?_⟩
         ·intro w1 hb
          have e := (hFt w1 hb).cell 0
          simp at e
          simp [e, go_sem]
          done
         go_big_quiet_on)
      | (refine ⟨tyVal a (.slice o1 a.parts.length c1) (.slice o2 a.meths.length c2) (.slice o3 a.overs.length c3), ?_, ?_⟩
         ·intro w1 hb
          have e0 := (hA w1 hb).cell 0
          have e1 := (hA w1 hb).cell 1
          have e2 := (hA w1 hb).cell 2
          have e3 := (hA w1 hb).cell 3
          have e4 := (hA w1 hb).cell 4
          have e5 := (hA w1 hb).cell 5
          have e6 := (hA w1 hb).cell 6
          have e7 := (hA w1 hb).cell 7
          have e8 := (hA w1 hb).cell 8
          have e9 := (hA w1 hb).cell 9
          simp [tyC] at e0 e1 e2 e3 e4 e5 e6 e7 e8 e9
          simp [e0, e1, e2, e3, e4, e5, e6, e7, e8, e9, tyVal, go_sem]
          done
         go_big_quiet_on)
      | (refine ⟨tyVal b (.slice p1 b.parts.length d1) (.slice p2 b.meths.length d2) (.slice p3 b.overs.length d3), ?_, ?_⟩
         ·intro w1 hb
          have e0 := (hBb w1 hb).cell 0
          have e1 := (hBb w1 hb).cell 1
          have e2 := (hBb w1 hb).cell 2
          have e3 := (hBb w1 hb).cell 3
          have e4 := (hBb w1 hb).cell 4
          have e5 := (hBb w1 hb).cell 5
          have e6 := (hBb w1 hb).cell 6
          have e7 := (hBb w1 hb).cell 7
          have e8 := (hBb w1 hb).cell 8
          have e9 := (hBb w1 hb).cell 9
          simp [tyC] at e0 e1 e2 e3 e4 e5 e6 e7 e8 e9
          simp [e0, e1, e2, e3, e4, e5, e6, e7, e8, e9, tyVal, go_sem]
          done
         go_big_quiet_on)
      | (refine ⟨.agg #[.int .u8 a.kind, .int .i64 a.low, .int .i64 a.high, .bool a.branded, .string a.brand, .string a.opq], ?_, ?_⟩
         ·intro w1 hb
          with_reducible refine (unhide HPa w1 hb).mono ?_
          rintro e w2 ⟨rfl, hb2⟩
          exact ⟨rfl, hb.trans (hb2.mono hb.size)⟩
         go_big_quiet_on)
      | (refine ⟨.agg #[.int .u8 b.kind, .int .i64 b.low, .int .i64 b.high, .bool b.branded, .string b.brand, .string b.opq], ?_, ?_⟩
         ·intro w1 hb
          with_reducible refine (unhide HPb w1 hb).mono ?_
          rintro e w2 ⟨rfl, hb2⟩
          exact ⟨rfl, hb.trans (hb2.mono hb.size)⟩
         go_big_quiet_on)
      | (apply Exists.intro
         refine ⟨fun w1 hb => ?_, ?_⟩
         ·with_reducible refine (unhide HS w1 hb).mono ?_
          rintro e w2 ⟨rfl, hb2⟩
          exact ⟨rfl, hb.trans (hb2.mono hb.size)⟩
         go_big_quiet_on)
      | (apply Exists.intro
         refine ⟨fun w1 hb => ?_, ?_⟩
         ·with_reducible refine (unhide HP w1 hb).mono ?_
          rintro e w2 ⟨rfl, hb2⟩
          exact ⟨rfl, hb.trans (hb2.mono hb.size)⟩
         go_big_quiet_on)
      | (apply Exists.intro
         refine ⟨fun w1 hb => ?_, ?_⟩
         ·with_reducible refine (unhide HM w1 hb).mono ?_
          rintro e w2 ⟨rfl, hb2⟩
          exact ⟨rfl, hb.trans (hb2.mono hb.size)⟩
         go_big_quiet_on)
      | (apply Exists.intro
         refine ⟨fun w1 hb => ?_, ?_⟩
         ·with_reducible refine (unhide HV w1 hb).mono ?_
          rintro e w2 ⟨rfl, hb2⟩
          exact ⟨rfl, hb.trans (hb2.mono hb.size)⟩
         go_big_quiet_on)))
  refine wpQuiet_nil ?_
  rintro w1 hb
  go_wp2
  go_ret
  exact ⟨ret_bool (by rw [HB.out]; simp), hW3.trans (hb.mono hW3.size)⟩
end Go.Proofs.YteaokkaidcbdlaaGreatDoor

