/- Part 12 of 51: the texts Al, Ls, one behind the other. -/
import Derived.Test.YteaokkaidcbdlaaGreatDoorQ10
import Derived.Test.YteaokkaidcbdlaaGreatDoorQ11
import Derived.Test.YteaokkaidcbdlaaGreatDoorQ6
import Derived.Tactics
import Derived.Tactics2
import Derived.WalkKit
import Derived.LoopTactic
import Derived.Outline
import Derived.Lib.Hide
import Derived.Handy
import Derived.KernelRfl
import Derived.Deep.LoopGhost
import Derived.CallsIn
import Derived.Deep.QuietTactic
import Derived.BigQuiet
import Derived.Deep.Draws
import Derived.WalkSpells
import Derived.Lib.Walk
import Derived.Lib.Strings
import Derived.Maps.OwnOps
import Derived.Maps.OwnSet
import Derived.Deep.RegionWith
import Derived.StillTailTactics
import Derived.WalkMore
import Derived.RangeFuncNested
import Derived.RangeFuncBound
import Derived.RangeFuncCalls
import Derived.RangeFuncLeaves
import Derived.RangeFuncBox
import Derived.Shelf.Abstract
import Derived.OwnWalkIn
import Derived.TacticsInMore
import Derived.LoopNIn
import Derived.LoopIn
import Derived.RecoverIn
import Derived.Maps.AppendAt
import Derived.RegionTactic
import Derived.ChangeAlike
import Derived.OwnWalk
import Derived.Deep.AppendLies
import Derived.Deep.DeepCutAuto
import Derived.Deep.RegionLaw
import Derived.Deep.RegionHeld3
import Derived.Laws.EntriesVeiled
/- When two types agree at once: areAlike with agree's function, for every two types. -/
namespace Go.Proofs.YteaokkaidcbdlaaGreatDoor
open Go Go.RowKit Go.Shelf
/-- All but the lists and the indices. -/
def plainB (a b : TyD) : Bool := ((a.kind : Int) == b.kind) && ((a.low == b.low) && ((a.high == b.high) && ((a.branded == b.branded) && (sameS a.brand b.brand && sameS a.opq b.opq))))
/-- Two types agree at once. -/
def agreeB (a b : TyD) : Bool := plainB a b && (fitB a.super b.super && (eqF partFitB a.parts b.parts && (eqF methFitB a.meths b.meths && eqF overFitB a.overs b.overs)))
set_option maxRecDepth 100000 in
set_option maxHeartbeats 64000000 in
theorem areAlike_any (a b : TyD) (va1 va2 va3 vb1 vb2 vb3 : Value) (W : World) (ha : TyL W va1 va2 va3 a) (hb : TyL W vb1 vb2 vb3 b) :
    Calls Tryz.prog 114 #[tyVal a va1 va2 va3, tyVal b vb1 vb2 vb3, .func (.func 158) #[] #[]] W fun e w' => e = .returned (.bool (agreeB a b)) ∧ Below W.heap.size W w' := by
  obtain ⟨o1, c1, rfl⟩ := ha.parts.form
  obtain ⟨o2, c2, rfl⟩ := ha.meths.form
  obtain ⟨o3, c3, rfl⟩ := ha.overs.form
  obtain ⟨p1, d1, rfl⟩ := hb.parts.form
  obtain ⟨p2, d2, rfl⟩ := hb.meths.form
  obtain ⟨p3, d3, rfl⟩ := hb.overs.form
  obtain ⟨W3, hW3, hEQ, g1, g2, g3⟩ : ∃ W3, Below W.heap.size W W3 ∧ W3 = (((W.alloc (.cells #[.int .u8 a.kind, .int .i64 a.low, .int .i64 a.high, .bool a.branded, .string a.brand, .string a.opq, .int .i64 a.super, .slice o1 a.parts.length c1, .slice o2 a.meths.length c2, .slice o3 a.overs.length c3] 62)).alloc (.cells #[.int .u8 b.kind, .int .i64 b.low, .int .i64 b.high, .bool b.branded, .string b.brand, .string b.opq, .int .i64 b.super, .slice p1 b.parts.length d1, .slice p2 b.meths.length d2, .slice p3 b.overs.length d3] 62)).alloc (.cells #[.func (.func 158) #[] #[]] 132)) ∧
      Blk W3 W.heap.size (tyC a (.slice o1 a.parts.length c1) (.slice o2 a.meths.length c2) (.slice o3 a.overs.length c3)) 62 ∧ Blk W3 (W.heap.size + 1) (tyC b (.slice p1 b.parts.length d1) (.slice p2 b.meths.length d2) (.slice p3 b.overs.length d3)) 62 ∧ Blk W3 (W.heap.size + 1 + 1) [.func (.func 158) #[] #[]] 132 := by
    refine ⟨_, (((Below.refl _ _).alloc (Nat.le_refl _) _).alloc (by simp) _).alloc (by simp; omega) _, rfl, ((Blk.new W (tyC a (.slice o1 a.parts.length c1) (.slice o2 a.meths.length c2) (.slice o3 a.overs.length c3)) 62).alloc _).alloc _, ?_, ?_⟩
    · have h := Blk.new (W.alloc (.cells (tyC a (.slice o1 a.parts.length c1) (.slice o2 a.meths.length c2) (.slice o3 a.overs.length c3)).toArray 62)) (tyC b (.slice p1 b.parts.length d1) (.slice p2 b.meths.length d2) (.slice p3 b.overs.length d3)) 62
      rw [World.size_alloc] at h
      exact h.alloc _
    · have h := Blk.new ((W.alloc (.cells (tyC a (.slice o1 a.parts.length c1) (.slice o2 a.meths.length c2) (.slice o3 a.overs.length c3)).toArray 62)).alloc (.cells (tyC b (.slice p1 b.parts.length d1) (.slice p2 b.meths.length d2) (.slice p3 b.overs.length d3)).toArray 62)) [.func (.func 158) #[] #[]] 132
      rw [World.size_alloc, World.size_alloc] at h
      exact h
  have hA : ∀ w', Below W3.heap.size W3 w' → Blk w' W.heap.size (tyC a (.slice o1 a.parts.length c1) (.slice o2 a.meths.length c2) (.slice o3 a.overs.length c3)) 62 := fun w' h => g1.below h g1.lt
  have hBb : ∀ w', Below W3.heap.size W3 w' → Blk w' (W.heap.size + 1) (tyC b (.slice p1 b.parts.length d1) (.slice p2 b.meths.length d2) (.slice p3 b.overs.length d3)) 62 := fun w' h => g2.below h g2.lt
  have hFt : ∀ w', Below W3.heap.size W3 w' → Blk w' (W.heap.size + 1 + 1) [.func (.func 158) #[] #[]] 132 := fun w' h => g3.below h g3.lt
  have hpa := fun w (_ : Below W3.heap.size W3 w) => plainOf_any a (.slice o1 a.parts.length c1) (.slice o2 a.meths.length c2) (.slice o3 a.overs.length c3) w
  have hpb := fun w (_ : Below W3.heap.size W3 w) => plainOf_any b (.slice p1 b.parts.length d1) (.slice p2 b.meths.length d2) (.slice p3 b.overs.length d3) w
  have HPa := hide hpa
  have HPb := hide hpb
  clear hpa hpb
  have hfc : W3.cell? ⟨W.heap.size + 1 + 1, 0, none⟩ = some fitV := g3.cell 0
  have la := ha.go (.below hW3)
  have lb := hb.go (.below hW3)
  have HS := hide (fun w (_ : Below W3.heap.size W3 w) => (fit_any a.super b.super w).mono fun _ w' (h : _ ∧ w' = w) => (⟨h.1, h.2 ▸ Below.refl _ _⟩ : _ ∧ Below w.heap.size w w'))
  have HP := hide (fun w (h : Below W3.heap.size W3 w) => eqParts_any _ _ a.parts b.parts _ W3 w hfc la.parts lb.parts h)
  have HM := hide (fun w (h : Below W3.heap.size W3 w) => eqMeths_any _ _ a.meths b.meths _ W3 w hfc la.meths lb.meths h)
  have HV := hide (fun w (h : Below W3.heap.size W3 w) => (eqOvers_any _ _ a.overs b.overs w (la.go (.below h)).overs (lb.go (.below h)).overs).mono fun _ w' (h' : _ ∧ ∃ n, w' = w.drewN n) => (⟨h'.1, by obtain ⟨n, rfl⟩ := h'.2; exact below_drewN' (Below.refl _ _) n⟩ : _ ∧ Below w.heap.size w w'))
  have hU1 : tyVal a (.slice o1 a.parts.length c1) (.slice o2 a.meths.length c2) (.slice o3 a.overs.length c3) = .agg #[.int .u8 a.kind, .int .i64 a.low, .int .i64 a.high, .bool a.branded, .string a.brand, .string a.opq, .int .i64 a.super, .slice o1 a.parts.length c1, .slice o2 a.meths.length c2, .slice o3 a.overs.length c3] := rfl
  have hU2 : tyVal b (.slice p1 b.parts.length d1) (.slice p2 b.meths.length d2) (.slice p3 b.overs.length d3) = .agg #[.int .u8 b.kind, .int .i64 b.low, .int .i64 b.high, .bool b.branded, .string b.brand, .string b.opq, .int .i64 b.super, .slice p1 b.parts.length d1, .slice p2 b.meths.length d2, .slice p3 b.overs.length d3] := rfl
  rw [hU1, hU2]
  clear ha hb la lb hfc g1 g2 g3 hU1 hU2
  have HB := Lib.hid (show agreeB a b = ((((a.kind : Int) == b.kind) && ((a.low == b.low) && ((a.high == b.high) && ((a.branded == b.branded) && (sameS a.brand b.brand && sameS a.opq b.opq))))) && (fitB a.super b.super && (eqF partFitB a.parts b.parts && (eqF methFitB a.meths b.meths && eqF overFitB a.overs b.overs)))) from rfl)
  have q5 : (a.brand.toList == b.brand.toList) = sameS a.brand b.brand := rfl
  have q6 : (a.opq.toList == b.opq.toList) = sameS a.opq b.opq := rfl
  generalize q1 : ((a.kind : Int) == b.kind) = x1 at HB
  generalize q2 : (a.low == b.low) = x2 at HB
  generalize q3 : (a.high == b.high) = x3 at HB
  generalize q4 : (a.branded == b.branded) = x4 at HB
  generalize sameS a.brand b.brand = x5 at HB q5
  generalize sameS a.opq b.opq = x6 at HB q6
  generalize fitB a.super b.super = s at HB HS
  generalize eqF partFitB a.parts b.parts = pp at HB HP
  generalize eqF methFitB a.meths b.meths = mm at HB HM
  generalize eqF overFitB a.overs b.overs = vv at HB HV
  cases x1
  · go_enter Tryz.func114, Tryz.ntmps114
    go_wp2_with fail
    rw [← hEQ]
    clear hEQ
    refine wp_region_quiet (C := fun w' => Below W3.heap.size W3 w') (by kernel_rfl) (by kernel_rfl) (below_drewN' (Below.refl _ _) 1) ?_
    simp only []
    repeat (first
      | go_big_quiet_skip
      | (go_big_quiet_want; go_big_quiet_op; first
        | go_big_quiet_on
            | (refine ⟨_, fun _ _ => rfl, ?_⟩; go_big_quiet_on)
            | (refine ⟨.int .i64 a.super, ?_, ?_⟩
               · intro w1 hb
                 have e := (hA w1 hb).cell 6
                 simp [tyC] at e
                 simp [e, go_sem]
                 done
               go_big_quiet_on)
            | (refine ⟨.int .i64 b.super, ?_, ?_⟩
               · intro w1 hb
                 have e := (hBb w1 hb).cell 6
                 simp [tyC] at e
                 simp [e, go_sem]
                 done
               go_big_quiet_on)
            | (refine ⟨.slice o1 a.parts.length c1, ?_, ?_⟩
               · intro w1 hb
                 have e := (hA w1 hb).cell 7
                 simp [tyC] at e
                 simp [e, go_sem]
                 done
               go_big_quiet_on)
            | (refine ⟨.slice p1 b.parts.length d1, ?_, ?_⟩
               · intro w1 hb
                 have e := (hBb w1 hb).cell 7
                 simp [tyC] at e
                 simp [e, go_sem]
                 done
               go_big_quiet_on)
            | (refine ⟨.slice o2 a.meths.length c2, ?_, ?_⟩
               · intro w1 hb
                 have e := (hA w1 hb).cell 8
                 simp [tyC] at e
                 simp [e, go_sem]
                 done
               go_big_quiet_on)
            | (refine ⟨.slice p2 b.meths.length d2, ?_, ?_⟩
               · intro w1 hb
                 have e := (hBb w1 hb).cell 8
                 simp [tyC] at e
                 simp [e, go_sem]
                 done
               go_big_quiet_on)
            | (refine ⟨.slice o3 a.overs.length c3, ?_, ?_⟩
               · intro w1 hb
                 have e := (hA w1 hb).cell 9
                 simp [tyC] at e
                 simp [e, go_sem]
                 done
               go_big_quiet_on)
            | (refine ⟨.slice p3 b.overs.length d3, ?_, ?_⟩
               · intro w1 hb
                 have e := (hBb w1 hb).cell 9
                 simp [tyC] at e
                 simp [e, go_sem]
                 done
               go_big_quiet_on)
            | (refine ⟨.func (.func 158) #[] #[], ?_, ?_⟩
               · intro w1 hb
                 have e := (hFt w1 hb).cell 0
                 simp at e
                 simp [e, go_sem]
                 done
               go_big_quiet_on)
            | (refine ⟨tyVal a (.slice o1 a.parts.length c1) (.slice o2 a.meths.length c2) (.slice o3 a.overs.length c3), ?_, ?_⟩
               · intro w1 hb
                 have e0 := (hA w1 hb).cell 0
                 have e1 := (hA w1 hb).cell 1
                 have e2 := (hA w1 hb).cell 2
                 have e3 := (hA w1 hb).cell 3
                 have e4 := (hA w1 hb).cell 4
                 have e5 := (hA w1 hb).cell 5
                 have e6 := (hA w1 hb).cell 6
                 have e7 := (hA w1 hb).cell 7
                 have e8 := (hA w1 hb).cell 8
                 have e9 := (hA w1 hb).cell 9
                 simp [tyC] at e0 e1 e2 e3 e4 e5 e6 e7 e8 e9
                 simp [e0, e1, e2, e3, e4, e5, e6, e7, e8, e9, tyVal, go_sem]
                 done
               go_big_quiet_on)
            | (refine ⟨tyVal b (.slice p1 b.parts.length d1) (.slice p2 b.meths.length d2) (.slice p3 b.overs.length d3), ?_, ?_⟩
               · intro w1 hb
                 have e0 := (hBb w1 hb).cell 0
                 have e1 := (hBb w1 hb).cell 1
                 have e2 := (hBb w1 hb).cell 2
                 have e3 := (hBb w1 hb).cell 3
                 have e4 := (hBb w1 hb).cell 4
                 have e5 := (hBb w1 hb).cell 5
                 have e6 := (hBb w1 hb).cell 6
                 have e7 := (hBb w1 hb).cell 7
                 have e8 := (hBb w1 hb).cell 8
                 have e9 := (hBb w1 hb).cell 9
                 simp [tyC] at e0 e1 e2 e3 e4 e5 e6 e7 e8 e9
                 simp [e0, e1, e2, e3, e4, e5, e6, e7, e8, e9, tyVal, go_sem]
                 done
               go_big_quiet_on)
            | (refine ⟨.agg #[.int .u8 a.kind, .int .i64 a.low, .int .i64 a.high, .bool a.branded, .string a.brand, .string a.opq], ?_, ?_⟩
               · intro w1 hb
                 with_reducible refine (unhide HPa w1 hb).mono ?_
                 rintro e w2 ⟨rfl, hb2⟩
                 exact ⟨rfl, hb.trans (hb2.mono hb.size)⟩
               go_big_quiet_on)
            | (refine ⟨.agg #[.int .u8 b.kind, .int .i64 b.low, .int .i64 b.high, .bool b.branded, .string b.brand, .string b.opq], ?_, ?_⟩
               · intro w1 hb
                 with_reducible refine (unhide HPb w1 hb).mono ?_
                 rintro e w2 ⟨rfl, hb2⟩
                 exact ⟨rfl, hb.trans (hb2.mono hb.size)⟩
               go_big_quiet_on)
            | (apply Exists.intro
               refine ⟨fun w1 hb => ?_, ?_⟩
               · with_reducible refine (unhide HS w1 hb).mono ?_
                 rintro e w2 ⟨rfl, hb2⟩
                 exact ⟨rfl, hb.trans (hb2.mono hb.size)⟩
               go_big_quiet_on)
            | (apply Exists.intro
               refine ⟨fun w1 hb => ?_, ?_⟩
               · with_reducible refine (unhide HP w1 hb).mono ?_
                 rintro e w2 ⟨rfl, hb2⟩
                 exact ⟨rfl, hb.trans (hb2.mono hb.size)⟩
               go_big_quiet_on)
            | (apply Exists.intro
               refine ⟨fun w1 hb => ?_, ?_⟩
               · with_reducible refine (unhide HM w1 hb).mono ?_
                 rintro e w2 ⟨rfl, hb2⟩
                 exact ⟨rfl, hb.trans (hb2.mono hb.size)⟩
               go_big_quiet_on)
            | (apply Exists.intro
               refine ⟨fun w1 hb => ?_, ?_⟩
               · with_reducible refine (unhide HV w1 hb).mono ?_
                 rintro e w2 ⟨rfl, hb2⟩
                 exact ⟨rfl, hb.trans (hb2.mono hb.size)⟩
               go_big_quiet_on)))
    refine wpQuiet_nil ?_
    rintro w1 hb
    go_wp2
    go_ret
    exact ⟨ret_bool (by rw [HB.out]; simp), hW3.trans (hb.mono hW3.size)⟩
  cases x2
  · go_enter Tryz.func114, Tryz.ntmps114
    go_wp2_with fail
    rw [← hEQ]
    clear hEQ
    refine wp_region_quiet (C := fun w' => Below W3.heap.size W3 w') (by kernel_rfl) (by kernel_rfl) (below_drewN' (Below.refl _ _) 1) ?_
    simp only []
    repeat (first
      | go_big_quiet_skip
      | (go_big_quiet_want; go_big_quiet_op; first
        | go_big_quiet_on
            | (refine ⟨_, fun _ _ => rfl, ?_⟩; go_big_quiet_on)
            | (refine ⟨.int .i64 a.super, ?_, ?_⟩
               · intro w1 hb
                 have e := (hA w1 hb).cell 6
                 simp [tyC] at e
                 simp [e, go_sem]
                 done
               go_big_quiet_on)
            | (refine ⟨.int .i64 b.super, ?_, ?_⟩
               · intro w1 hb
                 have e := (hBb w1 hb).cell 6
                 simp [tyC] at e
                 simp [e, go_sem]
                 done
               go_big_quiet_on)
            | (refine ⟨.slice o1 a.parts.length c1, ?_, ?_⟩
               · intro w1 hb
                 have e := (hA w1 hb).cell 7
                 simp [tyC] at e
                 simp [e, go_sem]
                 done
               go_big_quiet_on)
            | (refine ⟨.slice p1 b.parts.length d1, ?_, ?_⟩
               · intro w1 hb
                 have e := (hBb w1 hb).cell 7
                 simp [tyC] at e
                 simp [e, go_sem]
                 done
               go_big_quiet_on)
            | (refine ⟨.slice o2 a.meths.length c2, ?_, ?_⟩
               · intro w1 hb
                 have e := (hA w1 hb).cell 8
                 simp [tyC] at e
                 simp [e, go_sem]
                 done
               go_big_quiet_on)
            | (refine ⟨.slice p2 b.meths.length d2, ?_, ?_⟩
               · intro w1 hb
                 have e := (hBb w1 hb).cell 8
                 simp [tyC] at e
                 simp [e, go_sem]
                 done
               go_big_quiet_on)
            | (refine ⟨.slice o3 a.overs.length c3, ?_, ?_⟩
               · intro w1 hb
                 have e := (hA w1 hb).cell 9
                 simp [tyC] at e
                 simp [e, go_sem]
                 done
               go_big_quiet_on)
            | (refine ⟨.slice p3 b.overs.length d3, ?_, ?_⟩
               · intro w1 hb
                 have e := (hBb w1 hb).cell 9
                 simp [tyC] at e
                 simp [e, go_sem]
                 done
               go_big_quiet_on)
            | (refine ⟨.func (.func 158) #[] #[], ?_, ?_⟩
               · intro w1 hb
                 have e := (hFt w1 hb).cell 0
                 simp at e
                 simp [e, go_sem]
                 done
               go_big_quiet_on)
            | (refine ⟨tyVal a (.slice o1 a.parts.length c1) (.slice o2 a.meths.length c2) (.slice o3 a.overs.length c3), ?_, ?_⟩
               · intro w1 hb
                 have e0 := (hA w1 hb).cell 0
                 have e1 := (hA w1 hb).cell 1
                 have e2 := (hA w1 hb).cell 2
                 have e3 := (hA w1 hb).cell 3
                 have e4 := (hA w1 hb).cell 4
                 have e5 := (hA w1 hb).cell 5
                 have e6 := (hA w1 hb).cell 6
                 have e7 := (hA w1 hb).cell 7
                 have e8 := (hA w1 hb).cell 8
                 have e9 := (hA w1 hb).cell 9
                 simp [tyC] at e0 e1 e2 e3 e4 e5 e6 e7 e8 e9
                 simp [e0, e1, e2, e3, e4, e5, e6, e7, e8, e9, tyVal, go_sem]
                 done
               go_big_quiet_on)
            | (refine ⟨tyVal b (.slice p1 b.parts.length d1) (.slice p2 b.meths.length d2) (.slice p3 b.overs.length d3), ?_, ?_⟩
               · intro w1 hb
                 have e0 := (hBb w1 hb).cell 0
                 have e1 := (hBb w1 hb).cell 1
                 have e2 := (hBb w1 hb).cell 2
                 have e3 := (hBb w1 hb).cell 3
                 have e4 := (hBb w1 hb).cell 4
                 have e5 := (hBb w1 hb).cell 5
                 have e6 := (hBb w1 hb).cell 6
                 have e7 := (hBb w1 hb).cell 7
                 have e8 := (hBb w1 hb).cell 8
                 have e9 := (hBb w1 hb).cell 9
                 simp [tyC] at e0 e1 e2 e3 e4 e5 e6 e7 e8 e9
                 simp [e0, e1, e2, e3, e4, e5, e6, e7, e8, e9, tyVal, go_sem]
                 done
               go_big_quiet_on)
            | (refine ⟨.agg #[.int .u8 a.kind, .int .i64 a.low, .int .i64 a.high, .bool a.branded, .string a.brand, .string a.opq], ?_, ?_⟩
               · intro w1 hb
                 with_reducible refine (unhide HPa w1 hb).mono ?_
                 rintro e w2 ⟨rfl, hb2⟩
                 exact ⟨rfl, hb.trans (hb2.mono hb.size)⟩
               go_big_quiet_on)
            | (refine ⟨.agg #[.int .u8 b.kind, .int .i64 b.low, .int .i64 b.high, .bool b.branded, .string b.brand, .string b.opq], ?_, ?_⟩
               · intro w1 hb
                 with_reducible refine (unhide HPb w1 hb).mono ?_
                 rintro e w2 ⟨rfl, hb2⟩
                 exact ⟨rfl, hb.trans (hb2.mono hb.size)⟩
               go_big_quiet_on)
            | (apply Exists.intro
               refine ⟨fun w1 hb => ?_, ?_⟩
               · with_reducible refine (unhide HS w1 hb).mono ?_
                 rintro e w2 ⟨rfl, hb2⟩
                 exact ⟨rfl, hb.trans (hb2.mono hb.size)⟩
               go_big_quiet_on)
            | (apply Exists.intro
               refine ⟨fun w1 hb => ?_, ?_⟩
               · with_reducible refine (unhide HP w1 hb).mono ?_
                 rintro e w2 ⟨rfl, hb2⟩
                 exact ⟨rfl, hb.trans (hb2.mono hb.size)⟩
               go_big_quiet_on)
            | (apply Exists.intro
               refine ⟨fun w1 hb => ?_, ?_⟩
               · with_reducible refine (unhide HM w1 hb).mono ?_
                 rintro e w2 ⟨rfl, hb2⟩
                 exact ⟨rfl, hb.trans (hb2.mono hb.size)⟩
               go_big_quiet_on)
            | (apply Exists.intro
               refine ⟨fun w1 hb => ?_, ?_⟩
               · with_reducible refine (unhide HV w1 hb).mono ?_
                 rintro e w2 ⟨rfl, hb2⟩
                 exact ⟨rfl, hb.trans (hb2.mono hb.size)⟩
               go_big_quiet_on)))
    refine wpQuiet_nil ?_
    rintro w1 hb
    go_wp2
    go_ret
    exact ⟨ret_bool (by rw [HB.out]; simp), hW3.trans (hb.mono hW3.size)⟩
  cases x3
  · go_enter Tryz.func114, Tryz.ntmps114
    go_wp2_with fail
    rw [← hEQ]
    clear hEQ
    refine wp_region_quiet (C := fun w' => Below W3.heap.size W3 w') (by kernel_rfl) (by kernel_rfl) (below_drewN' (Below.refl _ _) 1) ?_
    simp only []
    repeat (first
      | go_big_quiet_skip
      | (go_big_quiet_want; go_big_quiet_op; first
        | go_big_quiet_on
            | (refine ⟨_, fun _ _ => rfl, ?_⟩; go_big_quiet_on)
            | (refine ⟨.int .i64 a.super, ?_, ?_⟩
               · intro w1 hb
                 have e := (hA w1 hb).cell 6
                 simp [tyC] at e
                 simp [e, go_sem]
                 done
               go_big_quiet_on)
            | (refine ⟨.int .i64 b.super, ?_, ?_⟩
               · intro w1 hb
                 have e := (hBb w1 hb).cell 6
                 simp [tyC] at e
                 simp [e, go_sem]
                 done
               go_big_quiet_on)
            | (refine ⟨.slice o1 a.parts.length c1, ?_, ?_⟩
               · intro w1 hb
                 have e := (hA w1 hb).cell 7
                 simp [tyC] at e
                 simp [e, go_sem]
                 done
               go_big_quiet_on)
            | (refine ⟨.slice p1 b.parts.length d1, ?_, ?_⟩
               · intro w1 hb
                 have e := (hBb w1 hb).cell 7
                 simp [tyC] at e
                 simp [e, go_sem]
                 done
               go_big_quiet_on)
            | (refine ⟨.slice o2 a.meths.length c2, ?_, ?_⟩
               · intro w1 hb
                 have e := (hA w1 hb).cell 8
                 simp [tyC] at e
                 simp [e, go_sem]
                 done
               go_big_quiet_on)
            | (refine ⟨.slice p2 b.meths.length d2, ?_, ?_⟩
               · intro w1 hb
                 have e := (hBb w1 hb).cell 8
                 simp [tyC] at e
                 simp [e, go_sem]
                 done
               go_big_quiet_on)
            | (refine ⟨.slice o3 a.overs.length c3, ?_, ?_⟩
               · intro w1 hb
                 have e := (hA w1 hb).cell 9
                 simp [tyC] at e
                 simp [e, go_sem]
                 done
               go_big_quiet_on)
            | (refine ⟨.slice p3 b.overs.length d3, ?_, ?_⟩
               · intro w1 hb
                 have e := (hBb w1 hb).cell 9
                 simp [tyC] at e
                 simp [e, go_sem]
                 done
               go_big_quiet_on)
            | (refine ⟨.func (.func 158) #[] #[], ?_, ?_⟩
               · intro w1 hb
                 have e := (hFt w1 hb).cell 0
                 simp at e
                 simp [e, go_sem]
                 done
               go_big_quiet_on)
            | (refine ⟨tyVal a (.slice o1 a.parts.length c1) (.slice o2 a.meths.length c2) (.slice o3 a.overs.length c3), ?_, ?_⟩
               · intro w1 hb
                 have e0 := (hA w1 hb).cell 0
                 have e1 := (hA w1 hb).cell 1
                 have e2 := (hA w1 hb).cell 2
                 have e3 := (hA w1 hb).cell 3
                 have e4 := (hA w1 hb).cell 4
                 have e5 := (hA w1 hb).cell 5
                 have e6 := (hA w1 hb).cell 6
                 have e7 := (hA w1 hb).cell 7
                 have e8 := (hA w1 hb).cell 8
                 have e9 := (hA w1 hb).cell 9
                 simp [tyC] at e0 e1 e2 e3 e4 e5 e6 e7 e8 e9
                 simp [e0, e1, e2, e3, e4, e5, e6, e7, e8, e9, tyVal, go_sem]
                 done
               go_big_quiet_on)
            | (refine ⟨tyVal b (.slice p1 b.parts.length d1) (.slice p2 b.meths.length d2) (.slice p3 b.overs.length d3), ?_, ?_⟩
               · intro w1 hb
                 have e0 := (hBb w1 hb).cell 0
                 have e1 := (hBb w1 hb).cell 1
                 have e2 := (hBb w1 hb).cell 2
                 have e3 := (hBb w1 hb).cell 3
                 have e4 := (hBb w1 hb).cell 4
                 have e5 := (hBb w1 hb).cell 5
                 have e6 := (hBb w1 hb).cell 6
                 have e7 := (hBb w1 hb).cell 7
                 have e8 := (hBb w1 hb).cell 8
                 have e9 := (hBb w1 hb).cell 9
                 simp [tyC] at e0 e1 e2 e3 e4 e5 e6 e7 e8 e9
                 simp [e0, e1, e2, e3, e4, e5, e6, e7, e8, e9, tyVal, go_sem]
                 done
               go_big_quiet_on)
            | (refine ⟨.agg #[.int .u8 a.kind, .int .i64 a.low, .int .i64 a.high, .bool a.branded, .string a.brand, .string a.opq], ?_, ?_⟩
               · intro w1 hb
                 with_reducible refine (unhide HPa w1 hb).mono ?_
                 rintro e w2 ⟨rfl, hb2⟩
                 exact ⟨rfl, hb.trans (hb2.mono hb.size)⟩
               go_big_quiet_on)
            | (refine ⟨.agg #[.int .u8 b.kind, .int .i64 b.low, .int .i64 b.high, .bool b.branded, .string b.brand, .string b.opq], ?_, ?_⟩
               · intro w1 hb
                 with_reducible refine (unhide HPb w1 hb).mono ?_
                 rintro e w2 ⟨rfl, hb2⟩
                 exact ⟨rfl, hb.trans (hb2.mono hb.size)⟩
               go_big_quiet_on)
            | (apply Exists.intro
               refine ⟨fun w1 hb => ?_, ?_⟩
               · with_reducible refine (unhide HS w1 hb).mono ?_
                 rintro e w2 ⟨rfl, hb2⟩
                 exact ⟨rfl, hb.trans (hb2.mono hb.size)⟩
               go_big_quiet_on)
            | (apply Exists.intro
               refine ⟨fun w1 hb => ?_, ?_⟩
               · with_reducible refine (unhide HP w1 hb).mono ?_
                 rintro e w2 ⟨rfl, hb2⟩
                 exact ⟨rfl, hb.trans (hb2.mono hb.size)⟩
               go_big_quiet_on)
            | (apply Exists.intro
               refine ⟨fun w1 hb => ?_, ?_⟩
               · with_reducible refine (unhide HM w1 hb).mono ?_
                 rintro e w2 ⟨rfl, hb2⟩
                 exact ⟨rfl, hb.trans (hb2.mono hb.size)⟩
               go_big_quiet_on)
            | (apply Exists.intro
               refine ⟨fun w1 hb => ?_, ?_⟩
               · with_reducible refine (unhide HV w1 hb).mono ?_
                 rintro e w2 ⟨rfl, hb2⟩
                 exact ⟨rfl, hb.trans (hb2.mono hb.size)⟩
               go_big_quiet_on)))
    refine wpQuiet_nil ?_
    rintro w1 hb
    go_wp2
    go_ret
    exact ⟨ret_bool (by rw [HB.out]; simp), hW3.trans (hb.mono hW3.size)⟩
  cases x4
  · go_enter Tryz.func114, Tryz.ntmps114
    go_wp2_with fail
    rw [← hEQ]
    clear hEQ
    refine wp_region_quiet (C := fun w' => Below W3.heap.size W3 w') (by kernel_rfl) (by kernel_rfl) (below_drewN' (Below.refl _ _) 1) ?_
    simp only []
    repeat (first
      | go_big_quiet_skip
      | (go_big_quiet_want; go_big_quiet_op; first
        | go_big_quiet_on
            | (refine ⟨_, fun _ _ => rfl, ?_⟩; go_big_quiet_on)
            | (refine ⟨.int .i64 a.super, ?_, ?_⟩
               · intro w1 hb
                 have e := (hA w1 hb).cell 6
                 simp [tyC] at e
                 simp [e, go_sem]
                 done
               go_big_quiet_on)
            | (refine ⟨.int .i64 b.super, ?_, ?_⟩
               · intro w1 hb
                 have e := (hBb w1 hb).cell 6
                 simp [tyC] at e
                 simp [e, go_sem]
                 done
               go_big_quiet_on)
            | (refine ⟨.slice o1 a.parts.length c1, ?_, ?_⟩
               · intro w1 hb
                 have e := (hA w1 hb).cell 7
                 simp [tyC] at e
                 simp [e, go_sem]
                 done
               go_big_quiet_on)
            | (refine ⟨.slice p1 b.parts.length d1, ?_, ?_⟩
               · intro w1 hb
                 have e := (hBb w1 hb).cell 7
                 simp [tyC] at e
                 simp [e, go_sem]
                 done
               go_big_quiet_on)
            | (refine ⟨.slice o2 a.meths.length c2, ?_, ?_⟩
               · intro w1 hb
                 have e := (hA w1 hb).cell 8
                 simp [tyC] at e
                 simp [e, go_sem]
                 done
               go_big_quiet_on)
            | (refine ⟨.slice p2 b.meths.length d2, ?_, ?_⟩
               · intro w1 hb
                 have e := (hBb w1 hb).cell 8
                 simp [tyC] at e
                 simp [e, go_sem]
                 done
               go_big_quiet_on)
            | (refine ⟨.slice o3 a.overs.length c3, ?_, ?_⟩
               · intro w1 hb
                 have e := (hA w1 hb).cell 9
                 simp [tyC] at e
                 simp [e, go_sem]
                 done
               go_big_quiet_on)
            | (refine ⟨.slice p3 b.overs.length d3, ?_, ?_⟩
               · intro w1 hb
                 have e := (hBb w1 hb).cell 9
                 simp [tyC] at e
                 simp [e, go_sem]
                 done
               go_big_quiet_on)
            | (refine ⟨.func (.func 158) #[] #[], ?_, ?_⟩
               · intro w1 hb
                 have e := (hFt w1 hb).cell 0
                 simp at e
                 simp [e, go_sem]
                 done
               go_big_quiet_on)
            | (refine ⟨tyVal a (.slice o1 a.parts.length c1) (.slice o2 a.meths.length c2) (.slice o3 a.overs.length c3), ?_, ?_⟩
               · intro w1 hb
                 have e0 := (hA w1 hb).cell 0
                 have e1 := (hA w1 hb).cell 1
                 have e2 := (hA w1 hb).cell 2
                 have e3 := (hA w1 hb).cell 3
                 have e4 := (hA w1 hb).cell 4
                 have e5 := (hA w1 hb).cell 5
                 have e6 := (hA w1 hb).cell 6
                 have e7 := (hA w1 hb).cell 7
                 have e8 := (hA w1 hb).cell 8
                 have e9 := (hA w1 hb).cell 9
                 simp [tyC] at e0 e1 e2 e3 e4 e5 e6 e7 e8 e9
                 simp [e0, e1, e2, e3, e4, e5, e6, e7, e8, e9, tyVal, go_sem]
                 done
               go_big_quiet_on)
            | (refine ⟨tyVal b (.slice p1 b.parts.length d1) (.slice p2 b.meths.length d2) (.slice p3 b.overs.length d3), ?_, ?_⟩
               · intro w1 hb
                 have e0 := (hBb w1 hb).cell 0
                 have e1 := (hBb w1 hb).cell 1
                 have e2 := (hBb w1 hb).cell 2
                 have e3 := (hBb w1 hb).cell 3
                 have e4 := (hBb w1 hb).cell 4
                 have e5 := (hBb w1 hb).cell 5
                 have e6 := (hBb w1 hb).cell 6
                 have e7 := (hBb w1 hb).cell 7
                 have e8 := (hBb w1 hb).cell 8
                 have e9 := (hBb w1 hb).cell 9
                 simp [tyC] at e0 e1 e2 e3 e4 e5 e6 e7 e8 e9
                 simp [e0, e1, e2, e3, e4, e5, e6, e7, e8, e9, tyVal, go_sem]
                 done
               go_big_quiet_on)
            | (refine ⟨.agg #[.int .u8 a.kind, .int .i64 a.low, .int .i64 a.high, .bool a.branded, .string a.brand, .string a.opq], ?_, ?_⟩
               · intro w1 hb
                 with_reducible refine (unhide HPa w1 hb).mono ?_
                 rintro e w2 ⟨rfl, hb2⟩
                 exact ⟨rfl, hb.trans (hb2.mono hb.size)⟩
               go_big_quiet_on)
            | (refine ⟨.agg #[.int .u8 b.kind, .int .i64 b.low, .int .i64 b.high, .bool b.branded, .string b.brand, .string b.opq], ?_, ?_⟩
               · intro w1 hb
                 with_reducible refine (unhide HPb w1 hb).mono ?_
                 rintro e w2 ⟨rfl, hb2⟩
                 exact ⟨rfl, hb.trans (hb2.mono hb.size)⟩
               go_big_quiet_on)
            | (apply Exists.intro
               refine ⟨fun w1 hb => ?_, ?_⟩
               · with_reducible refine (unhide HS w1 hb).mono ?_
                 rintro e w2 ⟨rfl, hb2⟩
                 exact ⟨rfl, hb.trans (hb2.mono hb.size)⟩
               go_big_quiet_on)
            | (apply Exists.intro
               refine ⟨fun w1 hb => ?_, ?_⟩
               · with_reducible refine (unhide HP w1 hb).mono ?_
                 rintro e w2 ⟨rfl, hb2⟩
                 exact ⟨rfl, hb.trans (hb2.mono hb.size)⟩
               go_big_quiet_on)
            | (apply Exists.intro
               refine ⟨fun w1 hb => ?_, ?_⟩
               · with_reducible refine (unhide HM w1 hb).mono ?_
                 rintro e w2 ⟨rfl, hb2⟩
                 exact ⟨rfl, hb.trans (hb2.mono hb.size)⟩
               go_big_quiet_on)
            | (apply Exists.intro
               refine ⟨fun w1 hb => ?_, ?_⟩
               · with_reducible refine (unhide HV w1 hb).mono ?_
                 rintro e w2 ⟨rfl, hb2⟩
                 exact ⟨rfl, hb.trans (hb2.mono hb.size)⟩
               go_big_quiet_on)))
    refine wpQuiet_nil ?_
    rintro w1 hb
    go_wp2
    go_ret
    exact ⟨ret_bool (by rw [HB.out]; simp), hW3.trans (hb.mono hW3.size)⟩
  cases x5
  · go_enter Tryz.func114, Tryz.ntmps114
    go_wp2_with fail
    rw [← hEQ]
    clear hEQ
    refine wp_region_quiet (C := fun w' => Below W3.heap.size W3 w') (by kernel_rfl) (by kernel_rfl) (below_drewN' (Below.refl _ _) 1) ?_
    simp only []
    repeat (first
      | go_big_quiet_skip
      | (go_big_quiet_want; go_big_quiet_op; first
        | go_big_quiet_on
            | (refine ⟨_, fun _ _ => rfl, ?_⟩; go_big_quiet_on)
            | (refine ⟨.int .i64 a.super, ?_, ?_⟩
               · intro w1 hb
                 have e := (hA w1 hb).cell 6
                 simp [tyC] at e
                 simp [e, go_sem]
                 done
               go_big_quiet_on)
            | (refine ⟨.int .i64 b.super, ?_, ?_⟩
               · intro w1 hb
                 have e := (hBb w1 hb).cell 6
                 simp [tyC] at e
                 simp [e, go_sem]
                 done
               go_big_quiet_on)
            | (refine ⟨.slice o1 a.parts.length c1, ?_, ?_⟩
               · intro w1 hb
                 have e := (hA w1 hb).cell 7
                 simp [tyC] at e
                 simp [e, go_sem]
                 done
               go_big_quiet_on)
            | (refine ⟨.slice p1 b.parts.length d1, ?_, ?_⟩
               · intro w1 hb
                 have e := (hBb w1 hb).cell 7
                 simp [tyC] at e
                 simp [e, go_sem]
                 done
               go_big_quiet_on)
            | (refine ⟨.slice o2 a.meths.length c2, ?_, ?_⟩
               · intro w1 hb
                 have e := (hA w1 hb).cell 8
                 simp [tyC] at e
                 simp [e, go_sem]
                 done
               go_big_quiet_on)
            | (refine ⟨.slice p2 b.meths.length d2, ?_, ?_⟩
               · intro w1 hb
                 have e := (hBb w1 hb).cell 8
                 simp [tyC] at e
                 simp [e, go_sem]
                 done
               go_big_quiet_on)
            | (refine ⟨.slice o3 a.overs.length c3, ?_, ?_⟩
               · intro w1 hb
                 have e := (hA w1 hb).cell 9
                 simp [tyC] at e
                 simp [e, go_sem]
                 done
               go_big_quiet_on)
            | (refine ⟨.slice p3 b.overs.length d3, ?_, ?_⟩
               · intro w1 hb
                 have e := (hBb w1 hb).cell 9
                 simp [tyC] at e
                 simp [e, go_sem]
                 done
               go_big_quiet_on)
            | (refine ⟨.func (.func 158) #[] #[], ?_, ?_⟩
               · intro w1 hb
                 have e := (hFt w1 hb).cell 0
                 simp at e
                 simp [e, go_sem]
                 done
               go_big_quiet_on)
            | (refine ⟨tyVal a (.slice o1 a.parts.length c1) (.slice o2 a.meths.length c2) (.slice o3 a.overs.length c3), ?_, ?_⟩
               · intro w1 hb
                 have e0 := (hA w1 hb).cell 0
                 have e1 := (hA w1 hb).cell 1
                 have e2 := (hA w1 hb).cell 2
                 have e3 := (hA w1 hb).cell 3
                 have e4 := (hA w1 hb).cell 4
                 have e5 := (hA w1 hb).cell 5
                 have e6 := (hA w1 hb).cell 6
                 have e7 := (hA w1 hb).cell 7
                 have e8 := (hA w1 hb).cell 8
                 have e9 := (hA w1 hb).cell 9
                 simp [tyC] at e0 e1 e2 e3 e4 e5 e6 e7 e8 e9
                 simp [e0, e1, e2, e3, e4, e5, e6, e7, e8, e9, tyVal, go_sem]
                 done
               go_big_quiet_on)
            | (refine ⟨tyVal b (.slice p1 b.parts.length d1) (.slice p2 b.meths.length d2) (.slice p3 b.overs.length d3), ?_, ?_⟩
               · intro w1 hb
                 have e0 := (hBb w1 hb).cell 0
                 have e1 := (hBb w1 hb).cell 1
                 have e2 := (hBb w1 hb).cell 2
                 have e3 := (hBb w1 hb).cell 3
                 have e4 := (hBb w1 hb).cell 4
                 have e5 := (hBb w1 hb).cell 5
                 have e6 := (hBb w1 hb).cell 6
                 have e7 := (hBb w1 hb).cell 7
                 have e8 := (hBb w1 hb).cell 8
                 have e9 := (hBb w1 hb).cell 9
                 simp [tyC] at e0 e1 e2 e3 e4 e5 e6 e7 e8 e9
                 simp [e0, e1, e2, e3, e4, e5, e6, e7, e8, e9, tyVal, go_sem]
                 done
               go_big_quiet_on)
            | (refine ⟨.agg #[.int .u8 a.kind, .int .i64 a.low, .int .i64 a.high, .bool a.branded, .string a.brand, .string a.opq], ?_, ?_⟩
               · intro w1 hb
                 with_reducible refine (unhide HPa w1 hb).mono ?_
                 rintro e w2 ⟨rfl, hb2⟩
                 exact ⟨rfl, hb.trans (hb2.mono hb.size)⟩
               go_big_quiet_on)
            | (refine ⟨.agg #[.int .u8 b.kind, .int .i64 b.low, .int .i64 b.high, .bool b.branded, .string b.brand, .string b.opq], ?_, ?_⟩
               · intro w1 hb
                 with_reducible refine (unhide HPb w1 hb).mono ?_
                 rintro e w2 ⟨rfl, hb2⟩
                 exact ⟨rfl, hb.trans (hb2.mono hb.size)⟩
               go_big_quiet_on)
            | (apply Exists.intro
               refine ⟨fun w1 hb => ?_, ?_⟩
               · with_reducible refine (unhide HS w1 hb).mono ?_
                 rintro e w2 ⟨rfl, hb2⟩
                 exact ⟨rfl, hb.trans (hb2.mono hb.size)⟩
               go_big_quiet_on)
            | (apply Exists.intro
               refine ⟨fun w1 hb => ?_, ?_⟩
               · with_reducible refine (unhide HP w1 hb).mono ?_
                 rintro e w2 ⟨rfl, hb2⟩
                 exact ⟨rfl, hb.trans (hb2.mono hb.size)⟩
               go_big_quiet_on)
            | (apply Exists.intro
               refine ⟨fun w1 hb => ?_, ?_⟩
               · with_reducible refine (unhide HM w1 hb).mono ?_
                 rintro e w2 ⟨rfl, hb2⟩
                 exact ⟨rfl, hb.trans (hb2.mono hb.size)⟩
               go_big_quiet_on)
            | (apply Exists.intro
               refine ⟨fun w1 hb => ?_, ?_⟩
               · with_reducible refine (unhide HV w1 hb).mono ?_
                 rintro e w2 ⟨rfl, hb2⟩
                 exact ⟨rfl, hb.trans (hb2.mono hb.size)⟩
               go_big_quiet_on)))
    refine wpQuiet_nil ?_
    rintro w1 hb
    go_wp2
    go_ret
    exact ⟨ret_bool (by rw [HB.out]; simp), hW3.trans (hb.mono hW3.size)⟩
  cases x6
  · go_enter Tryz.func114, Tryz.ntmps114
    go_wp2_with fail
    rw [← hEQ]
    clear hEQ
    refine wp_region_quiet (C := fun w' => Below W3.heap.size W3 w') (by kernel_rfl) (by kernel_rfl) (below_drewN' (Below.refl _ _) 1) ?_
    simp only []
    repeat (first
      | go_big_quiet_skip
      | (go_big_quiet_want; go_big_quiet_op; first
        | go_big_quiet_on
            | (refine ⟨_, fun _ _ => rfl, ?_⟩; go_big_quiet_on)
            | (refine ⟨.int .i64 a.super, ?_, ?_⟩
               · intro w1 hb
                 have e := (hA w1 hb).cell 6
                 simp [tyC] at e
                 simp [e, go_sem]
                 done
               go_big_quiet_on)
            | (refine ⟨.int .i64 b.super, ?_, ?_⟩
               · intro w1 hb
                 have e := (hBb w1 hb).cell 6
                 simp [tyC] at e
                 simp [e, go_sem]
                 done
               go_big_quiet_on)
            | (refine ⟨.slice o1 a.parts.length c1, ?_, ?_⟩
               · intro w1 hb
                 have e := (hA w1 hb).cell 7
                 simp [tyC] at e
                 simp [e, go_sem]
                 done
               go_big_quiet_on)
            | (refine ⟨.slice p1 b.parts.length d1, ?_, ?_⟩
               · intro w1 hb
                 have e := (hBb w1 hb).cell 7
                 simp [tyC] at e
                 simp [e, go_sem]
                 done
               go_big_quiet_on)
            | (refine ⟨.slice o2 a.meths.length c2, ?_, ?_⟩
               · intro w1 hb
                 have e := (hA w1 hb).cell 8
                 simp [tyC] at e
                 simp [e, go_sem]
                 done
               go_big_quiet_on)
            | (refine ⟨.slice p2 b.meths.length d2, ?_, ?_⟩
               · intro w1 hb
                 have e := (hBb w1 hb).cell 8
                 simp [tyC] at e
                 simp [e, go_sem]
                 done
               go_big_quiet_on)
            | (refine ⟨.slice o3 a.overs.length c3, ?_, ?_⟩
               · intro w1 hb
                 have e := (hA w1 hb).cell 9
                 simp [tyC] at e
                 simp [e, go_sem]
                 done
               go_big_quiet_on)
            | (refine ⟨.slice p3 b.overs.length d3, ?_, ?_⟩
               · intro w1 hb
                 have e := (hBb w1 hb).cell 9
                 simp [tyC] at e
                 simp [e, go_sem]
                 done
               go_big_quiet_on)
            | (refine ⟨.func (.func 158) #[] #[], ?_, ?_⟩
               · intro w1 hb
                 have e := (hFt w1 hb).cell 0
                 simp at e
                 simp [e, go_sem]
                 done
               go_big_quiet_on)
            | (refine ⟨tyVal a (.slice o1 a.parts.length c1) (.slice o2 a.meths.length c2) (.slice o3 a.overs.length c3), ?_, ?_⟩
               · intro w1 hb
                 have e0 := (hA w1 hb).cell 0
                 have e1 := (hA w1 hb).cell 1
                 have e2 := (hA w1 hb).cell 2
                 have e3 := (hA w1 hb).cell 3
                 have e4 := (hA w1 hb).cell 4
                 have e5 := (hA w1 hb).cell 5
                 have e6 := (hA w1 hb).cell 6
                 have e7 := (hA w1 hb).cell 7
                 have e8 := (hA w1 hb).cell 8
                 have e9 := (hA w1 hb).cell 9
                 simp [tyC] at e0 e1 e2 e3 e4 e5 e6 e7 e8 e9
                 simp [e0, e1, e2, e3, e4, e5, e6, e7, e8, e9, tyVal, go_sem]
                 done
               go_big_quiet_on)
            | (refine ⟨tyVal b (.slice p1 b.parts.length d1) (.slice p2 b.meths.length d2) (.slice p3 b.overs.length d3), ?_, ?_⟩
               · intro w1 hb
                 have e0 := (hBb w1 hb).cell 0
                 have e1 := (hBb w1 hb).cell 1
                 have e2 := (hBb w1 hb).cell 2
                 have e3 := (hBb w1 hb).cell 3
                 have e4 := (hBb w1 hb).cell 4
                 have e5 := (hBb w1 hb).cell 5
                 have e6 := (hBb w1 hb).cell 6
                 have e7 := (hBb w1 hb).cell 7
                 have e8 := (hBb w1 hb).cell 8
                 have e9 := (hBb w1 hb).cell 9
                 simp [tyC] at e0 e1 e2 e3 e4 e5 e6 e7 e8 e9
                 simp [e0, e1, e2, e3, e4, e5, e6, e7, e8, e9, tyVal, go_sem]
                 done
               go_big_quiet_on)
            | (refine ⟨.agg #[.int .u8 a.kind, .int .i64 a.low, .int .i64 a.high, .bool a.branded, .string a.brand, .string a.opq], ?_, ?_⟩
               · intro w1 hb
                 with_reducible refine (unhide HPa w1 hb).mono ?_
                 rintro e w2 ⟨rfl, hb2⟩
                 exact ⟨rfl, hb.trans (hb2.mono hb.size)⟩
               go_big_quiet_on)
            | (refine ⟨.agg #[.int .u8 b.kind, .int .i64 b.low, .int .i64 b.high, .bool b.branded, .string b.brand, .string b.opq], ?_, ?_⟩
               · intro w1 hb
                 with_reducible refine (unhide HPb w1 hb).mono ?_
                 rintro e w2 ⟨rfl, hb2⟩
                 exact ⟨rfl, hb.trans (hb2.mono hb.size)⟩
               go_big_quiet_on)
            | (apply Exists.intro
               refine ⟨fun w1 hb => ?_, ?_⟩
               · with_reducible refine (unhide HS w1 hb).mono ?_
                 rintro e w2 ⟨rfl, hb2⟩
                 exact ⟨rfl, hb.trans (hb2.mono hb.size)⟩
               go_big_quiet_on)
            | (apply Exists.intro
               refine ⟨fun w1 hb => ?_, ?_⟩
               · with_reducible refine (unhide HP w1 hb).mono ?_
                 rintro e w2 ⟨rfl, hb2⟩
                 exact ⟨rfl, hb.trans (hb2.mono hb.size)⟩
               go_big_quiet_on)
            | (apply Exists.intro
               refine ⟨fun w1 hb => ?_, ?_⟩
               · with_reducible refine (unhide HM w1 hb).mono ?_
                 rintro e w2 ⟨rfl, hb2⟩
                 exact ⟨rfl, hb.trans (hb2.mono hb.size)⟩
               go_big_quiet_on)
            | (apply Exists.intro
               refine ⟨fun w1 hb => ?_, ?_⟩
               · with_reducible refine (unhide HV w1 hb).mono ?_
                 rintro e w2 ⟨rfl, hb2⟩
                 exact ⟨rfl, hb.trans (hb2.mono hb.size)⟩
               go_big_quiet_on)))
    refine wpQuiet_nil ?_
    rintro w1 hb
    go_wp2
    go_ret
    exact ⟨ret_bool (by rw [HB.out]; simp), hW3.trans (hb.mono hW3.size)⟩
  cases s
  · go_enter Tryz.func114, Tryz.ntmps114
    go_wp2_with fail
    rw [← hEQ]
    clear hEQ
    refine wp_region_quiet (C := fun w' => Below W3.heap.size W3 w') (by kernel_rfl) (by kernel_rfl) (below_drewN' (Below.refl _ _) 1) ?_
    simp only []
    repeat (first
      | go_big_quiet_skip
      | (go_big_quiet_want; go_big_quiet_op; first
        | go_big_quiet_on
            | (refine ⟨_, fun _ _ => rfl, ?_⟩; go_big_quiet_on)
            | (refine ⟨.int .i64 a.super, ?_, ?_⟩
               · intro w1 hb
                 have e := (hA w1 hb).cell 6
                 simp [tyC] at e
                 simp [e, go_sem]
                 done
               go_big_quiet_on)
            | (refine ⟨.int .i64 b.super, ?_, ?_⟩
               · intro w1 hb
                 have e := (hBb w1 hb).cell 6
                 simp [tyC] at e
                 simp [e, go_sem]
                 done
               go_big_quiet_on)
            | (refine ⟨.slice o1 a.parts.length c1, ?_, ?_⟩
               · intro w1 hb
                 have e := (hA w1 hb).cell 7
                 simp [tyC] at e
                 simp [e, go_sem]
                 done
               go_big_quiet_on)
            | (refine ⟨.slice p1 b.parts.length d1, ?_, ?_⟩
               · intro w1 hb
                 have e := (hBb w1 hb).cell 7
                 simp [tyC] at e
                 simp [e, go_sem]
                 done
               go_big_quiet_on)
            | (refine ⟨.slice o2 a.meths.length c2, ?_, ?_⟩
               · intro w1 hb
                 have e := (hA w1 hb).cell 8
                 simp [tyC] at e
                 simp [e, go_sem]
                 done
               go_big_quiet_on)
            | (refine ⟨.slice p2 b.meths.length d2, ?_, ?_⟩
               · intro w1 hb
                 have e := (hBb w1 hb).cell 8
                 simp [tyC] at e
                 simp [e, go_sem]
                 done
               go_big_quiet_on)
            | (refine ⟨.slice o3 a.overs.length c3, ?_, ?_⟩
               · intro w1 hb
                 have e := (hA w1 hb).cell 9
                 simp [tyC] at e
                 simp [e, go_sem]
                 done
               go_big_quiet_on)
            | (refine ⟨.slice p3 b.overs.length d3, ?_, ?_⟩
               · intro w1 hb
                 have e := (hBb w1 hb).cell 9
                 simp [tyC] at e
                 simp [e, go_sem]
                 done
               go_big_quiet_on)
            | (refine ⟨.func (.func 158) #[] #[], ?_, ?_⟩
               · intro w1 hb
                 have e := (hFt w1 hb).cell 0
                 simp at e
                 simp [e, go_sem]
                 done
               go_big_quiet_on)
            | (refine ⟨tyVal a (.slice o1 a.parts.length c1) (.slice o2 a.meths.length c2) (.slice o3 a.overs.length c3), ?_, ?_⟩
               · intro w1 hb
                 have e0 := (hA w1 hb).cell 0
                 have e1 := (hA w1 hb).cell 1
                 have e2 := (hA w1 hb).cell 2
                 have e3 := (hA w1 hb).cell 3
                 have e4 := (hA w1 hb).cell 4
                 have e5 := (hA w1 hb).cell 5
                 have e6 := (hA w1 hb).cell 6
                 have e7 := (hA w1 hb).cell 7
                 have e8 := (hA w1 hb).cell 8
                 have e9 := (hA w1 hb).cell 9
                 simp [tyC] at e0 e1 e2 e3 e4 e5 e6 e7 e8 e9
                 simp [e0, e1, e2, e3, e4, e5, e6, e7, e8, e9, tyVal, go_sem]
                 done
               go_big_quiet_on)
            | (refine ⟨tyVal b (.slice p1 b.parts.length d1) (.slice p2 b.meths.length d2) (.slice p3 b.overs.length d3), ?_, ?_⟩
               · intro w1 hb
                 have e0 := (hBb w1 hb).cell 0
                 have e1 := (hBb w1 hb).cell 1
                 have e2 := (hBb w1 hb).cell 2
                 have e3 := (hBb w1 hb).cell 3
                 have e4 := (hBb w1 hb).cell 4
                 have e5 := (hBb w1 hb).cell 5
                 have e6 := (hBb w1 hb).cell 6
                 have e7 := (hBb w1 hb).cell 7
                 have e8 := (hBb w1 hb).cell 8
                 have e9 := (hBb w1 hb).cell 9
                 simp [tyC] at e0 e1 e2 e3 e4 e5 e6 e7 e8 e9
                 simp [e0, e1, e2, e3, e4, e5, e6, e7, e8, e9, tyVal, go_sem]
                 done
               go_big_quiet_on)
            | (refine ⟨.agg #[.int .u8 a.kind, .int .i64 a.low, .int .i64 a.high, .bool a.branded, .string a.brand, .string a.opq], ?_, ?_⟩
               · intro w1 hb
                 with_reducible refine (unhide HPa w1 hb).mono ?_
                 rintro e w2 ⟨rfl, hb2⟩
                 exact ⟨rfl, hb.trans (hb2.mono hb.size)⟩
               go_big_quiet_on)
            | (refine ⟨.agg #[.int .u8 b.kind, .int .i64 b.low, .int .i64 b.high, .bool b.branded, .string b.brand, .string b.opq], ?_, ?_⟩
               · intro w1 hb
                 with_reducible refine (unhide HPb w1 hb).mono ?_
                 rintro e w2 ⟨rfl, hb2⟩
                 exact ⟨rfl, hb.trans (hb2.mono hb.size)⟩
               go_big_quiet_on)
            | (apply Exists.intro
               refine ⟨fun w1 hb => ?_, ?_⟩
               · with_reducible refine (unhide HS w1 hb).mono ?_
                 rintro e w2 ⟨rfl, hb2⟩
                 exact ⟨rfl, hb.trans (hb2.mono hb.size)⟩
               go_big_quiet_on)
            | (apply Exists.intro
               refine ⟨fun w1 hb => ?_, ?_⟩
               · with_reducible refine (unhide HP w1 hb).mono ?_
                 rintro e w2 ⟨rfl, hb2⟩
                 exact ⟨rfl, hb.trans (hb2.mono hb.size)⟩
               go_big_quiet_on)
            | (apply Exists.intro
               refine ⟨fun w1 hb => ?_, ?_⟩
               · with_reducible refine (unhide HM w1 hb).mono ?_
                 rintro e w2 ⟨rfl, hb2⟩
                 exact ⟨rfl, hb.trans (hb2.mono hb.size)⟩
               go_big_quiet_on)
            | (apply Exists.intro
               refine ⟨fun w1 hb => ?_, ?_⟩
               · with_reducible refine (unhide HV w1 hb).mono ?_
                 rintro e w2 ⟨rfl, hb2⟩
                 exact ⟨rfl, hb.trans (hb2.mono hb.size)⟩
               go_big_quiet_on)))
    refine wpQuiet_nil ?_
    rintro w1 hb
    go_wp2
    go_ret
    exact ⟨ret_bool (by rw [HB.out]; simp), hW3.trans (hb.mono hW3.size)⟩
  cases pp
  · go_enter Tryz.func114, Tryz.ntmps114
    go_wp2_with fail
    rw [← hEQ]
    clear hEQ
    refine wp_region_quiet (C := fun w' => Below W3.heap.size W3 w') (by kernel_rfl) (by kernel_rfl) (below_drewN' (Below.refl _ _) 1) ?_
    simp only []
    repeat (first
      | go_big_quiet_skip
      | (go_big_quiet_want; go_big_quiet_op; first
        | go_big_quiet_on
            | (refine ⟨_, fun _ _ => rfl, ?_⟩; go_big_quiet_on)
            | (refine ⟨.int .i64 a.super, ?_, ?_⟩
               · intro w1 hb
                 have e := (hA w1 hb).cell 6
                 simp [tyC] at e
                 simp [e, go_sem]
                 done
               go_big_quiet_on)
            | (refine ⟨.int .i64 b.super, ?_, ?_⟩
               · intro w1 hb
                 have e := (hBb w1 hb).cell 6
                 simp [tyC] at e
                 simp [e, go_sem]
                 done
               go_big_quiet_on)
            | (refine ⟨.slice o1 a.parts.length c1, ?_, ?_⟩
               · intro w1 hb
                 have e := (hA w1 hb).cell 7
                 simp [tyC] at e
                 simp [e, go_sem]
                 done
               go_big_quiet_on)
            | (refine ⟨.slice p1 b.parts.length d1, ?_, ?_⟩
               · intro w1 hb
                 have e := (hBb w1 hb).cell 7
                 simp [tyC] at e
                 simp [e, go_sem]
                 done
               go_big_quiet_on)
            | (refine ⟨.slice o2 a.meths.length c2, ?_, ?_⟩
               · intro w1 hb
                 have e := (hA w1 hb).cell 8
                 simp [tyC] at e
                 simp [e, go_sem]
                 done
               go_big_quiet_on)
            | (refine ⟨.slice p2 b.meths.length d2, ?_, ?_⟩
               · intro w1 hb
                 have e := (hBb w1 hb).cell 8
                 simp [tyC] at e
                 simp [e, go_sem]
                 done
               go_big_quiet_on)
            | (refine ⟨.slice o3 a.overs.length c3, ?_, ?_⟩
               · intro w1 hb
                 have e := (hA w1 hb).cell 9
                 simp [tyC] at e
                 simp [e, go_sem]
                 done
               go_big_quiet_on)
            | (refine ⟨.slice p3 b.overs.length d3, ?_, ?_⟩
               · intro w1 hb
                 have e := (hBb w1 hb).cell 9
                 simp [tyC] at e
                 simp [e, go_sem]
                 done
               go_big_quiet_on)
            | (refine ⟨.func (.func 158) #[] #[], ?_, ?_⟩
               · intro w1 hb
                 have e := (hFt w1 hb).cell 0
                 simp at e
                 simp [e, go_sem]
                 done
               go_big_quiet_on)
            | (refine ⟨tyVal a (.slice o1 a.parts.length c1) (.slice o2 a.meths.length c2) (.slice o3 a.overs.length c3), ?_, ?_⟩
               · intro w1 hb
                 have e0 := (hA w1 hb).cell 0
                 have e1 := (hA w1 hb).cell 1
                 have e2 := (hA w1 hb).cell 2
                 have e3 := (hA w1 hb).cell 3
                 have e4 := (hA w1 hb).cell 4
                 have e5 := (hA w1 hb).cell 5
                 have e6 := (hA w1 hb).cell 6
                 have e7 := (hA w1 hb).cell 7
                 have e8 := (hA w1 hb).cell 8
                 have e9 := (hA w1 hb).cell 9
                 simp [tyC] at e0 e1 e2 e3 e4 e5 e6 e7 e8 e9
                 simp [e0, e1, e2, e3, e4, e5, e6, e7, e8, e9, tyVal, go_sem]
                 done
               go_big_quiet_on)
            | (refine ⟨tyVal b (.slice p1 b.parts.length d1) (.slice p2 b.meths.length d2) (.slice p3 b.overs.length d3), ?_, ?_⟩
               · intro w1 hb
                 have e0 := (hBb w1 hb).cell 0
                 have e1 := (hBb w1 hb).cell 1
                 have e2 := (hBb w1 hb).cell 2
                 have e3 := (hBb w1 hb).cell 3
                 have e4 := (hBb w1 hb).cell 4
                 have e5 := (hBb w1 hb).cell 5
                 have e6 := (hBb w1 hb).cell 6
                 have e7 := (hBb w1 hb).cell 7
                 have e8 := (hBb w1 hb).cell 8
                 have e9 := (hBb w1 hb).cell 9
                 simp [tyC] at e0 e1 e2 e3 e4 e5 e6 e7 e8 e9
                 simp [e0, e1, e2, e3, e4, e5, e6, e7, e8, e9, tyVal, go_sem]
                 done
               go_big_quiet_on)
            | (refine ⟨.agg #[.int .u8 a.kind, .int .i64 a.low, .int .i64 a.high, .bool a.branded, .string a.brand, .string a.opq], ?_, ?_⟩
               · intro w1 hb
                 with_reducible refine (unhide HPa w1 hb).mono ?_
                 rintro e w2 ⟨rfl, hb2⟩
                 exact ⟨rfl, hb.trans (hb2.mono hb.size)⟩
               go_big_quiet_on)
            | (refine ⟨.agg #[.int .u8 b.kind, .int .i64 b.low, .int .i64 b.high, .bool b.branded, .string b.brand, .string b.opq], ?_, ?_⟩
               · intro w1 hb
                 with_reducible refine (unhide HPb w1 hb).mono ?_
                 rintro e w2 ⟨rfl, hb2⟩
                 exact ⟨rfl, hb.trans (hb2.mono hb.size)⟩
               go_big_quiet_on)
            | (apply Exists.intro
               refine ⟨fun w1 hb => ?_, ?_⟩
               · with_reducible refine (unhide HS w1 hb).mono ?_
                 rintro e w2 ⟨rfl, hb2⟩
                 exact ⟨rfl, hb.trans (hb2.mono hb.size)⟩
               go_big_quiet_on)
            | (apply Exists.intro
               refine ⟨fun w1 hb => ?_, ?_⟩
               · with_reducible refine (unhide HP w1 hb).mono ?_
                 rintro e w2 ⟨rfl, hb2⟩
                 exact ⟨rfl, hb.trans (hb2.mono hb.size)⟩
               go_big_quiet_on)
            | (apply Exists.intro
               refine ⟨fun w1 hb => ?_, ?_⟩
               · with_reducible refine (unhide HM w1 hb).mono ?_
                 rintro e w2 ⟨rfl, hb2⟩
                 exact ⟨rfl, hb.trans (hb2.mono hb.size)⟩
               go_big_quiet_on)
            | (apply Exists.intro
               refine ⟨fun w1 hb => ?_, ?_⟩
               · with_reducible refine (unhide HV w1 hb).mono ?_
                 rintro e w2 ⟨rfl, hb2⟩
                 exact ⟨rfl, hb.trans (hb2.mono hb.size)⟩
               go_big_quiet_on)))
    refine wpQuiet_nil ?_
    rintro w1 hb
    go_wp2
    go_ret
    exact ⟨ret_bool (by rw [HB.out]; simp), hW3.trans (hb.mono hW3.size)⟩
  cases mm
  · go_enter Tryz.func114, Tryz.ntmps114
    go_wp2_with fail
    rw [← hEQ]
    clear hEQ
    refine wp_region_quiet (C := fun w' => Below W3.heap.size W3 w') (by kernel_rfl) (by kernel_rfl) (below_drewN' (Below.refl _ _) 1) ?_
    simp only []
    repeat (first
      | go_big_quiet_skip
      | (go_big_quiet_want; go_big_quiet_op; first
        | go_big_quiet_on
            | (refine ⟨_, fun _ _ => rfl, ?_⟩; go_big_quiet_on)
            | (refine ⟨.int .i64 a.super, ?_, ?_⟩
               · intro w1 hb
                 have e := (hA w1 hb).cell 6
                 simp [tyC] at e
                 simp [e, go_sem]
                 done
               go_big_quiet_on)
            | (refine ⟨.int .i64 b.super, ?_, ?_⟩
               · intro w1 hb
                 have e := (hBb w1 hb).cell 6
                 simp [tyC] at e
                 simp [e, go_sem]
                 done
               go_big_quiet_on)
            | (refine ⟨.slice o1 a.parts.length c1, ?_, ?_⟩
               · intro w1 hb
                 have e := (hA w1 hb).cell 7
                 simp [tyC] at e
                 simp [e, go_sem]
                 done
               go_big_quiet_on)
            | (refine ⟨.slice p1 b.parts.length d1, ?_, ?_⟩
               · intro w1 hb
                 have e := (hBb w1 hb).cell 7
                 simp [tyC] at e
                 simp [e, go_sem]
                 done
               go_big_quiet_on)
            | (refine ⟨.slice o2 a.meths.length c2, ?_, ?_⟩
               · intro w1 hb
                 have e := (hA w1 hb).cell 8
                 simp [tyC] at e
                 simp [e, go_sem]
                 done
               go_big_quiet_on)
            | (refine ⟨.slice p2 b.meths.length d2, ?_, ?_⟩
               · intro w1 hb
                 have e := (hBb w1 hb).cell 8
                 simp [tyC] at e
                 simp [e, go_sem]
                 done
               go_big_quiet_on)
            | (refine ⟨.slice o3 a.overs.length c3, ?_, ?_⟩
               · intro w1 hb
                 have e := (hA w1 hb).cell 9
                 simp [tyC] at e
                 simp [e, go_sem]
                 done
               go_big_quiet_on)
            | (refine ⟨.slice p3 b.overs.length d3, ?_, ?_⟩
               · intro w1 hb
                 have e := (hBb w1 hb).cell 9
                 simp [tyC] at e
                 simp [e, go_sem]
                 done
               go_big_quiet_on)
            | (refine ⟨.func (.func 158) #[] #[], ?_, ?_⟩
               · intro w1 hb
                 have e := (hFt w1 hb).cell 0
                 simp at e
                 simp [e, go_sem]
                 done
               go_big_quiet_on)
            | (refine ⟨tyVal a (.slice o1 a.parts.length c1) (.slice o2 a.meths.length c2) (.slice o3 a.overs.length c3), ?_, ?_⟩
               · intro w1 hb
                 have e0 := (hA w1 hb).cell 0
                 have e1 := (hA w1 hb).cell 1
                 have e2 := (hA w1 hb).cell 2
                 have e3 := (hA w1 hb).cell 3
                 have e4 := (hA w1 hb).cell 4
                 have e5 := (hA w1 hb).cell 5
                 have e6 := (hA w1 hb).cell 6
                 have e7 := (hA w1 hb).cell 7
                 have e8 := (hA w1 hb).cell 8
                 have e9 := (hA w1 hb).cell 9
                 simp [tyC] at e0 e1 e2 e3 e4 e5 e6 e7 e8 e9
                 simp [e0, e1, e2, e3, e4, e5, e6, e7, e8, e9, tyVal, go_sem]
                 done
               go_big_quiet_on)
            | (refine ⟨tyVal b (.slice p1 b.parts.length d1) (.slice p2 b.meths.length d2) (.slice p3 b.overs.length d3), ?_, ?_⟩
               · intro w1 hb
                 have e0 := (hBb w1 hb).cell 0
                 have e1 := (hBb w1 hb).cell 1
                 have e2 := (hBb w1 hb).cell 2
                 have e3 := (hBb w1 hb).cell 3
                 have e4 := (hBb w1 hb).cell 4
                 have e5 := (hBb w1 hb).cell 5
                 have e6 := (hBb w1 hb).cell 6
                 have e7 := (hBb w1 hb).cell 7
                 have e8 := (hBb w1 hb).cell 8
                 have e9 := (hBb w1 hb).cell 9
                 simp [tyC] at e0 e1 e2 e3 e4 e5 e6 e7 e8 e9
                 simp [e0, e1, e2, e3, e4, e5, e6, e7, e8, e9, tyVal, go_sem]
                 done
               go_big_quiet_on)
            | (refine ⟨.agg #[.int .u8 a.kind, .int .i64 a.low, .int .i64 a.high, .bool a.branded, .string a.brand, .string a.opq], ?_, ?_⟩
               · intro w1 hb
                 with_reducible refine (unhide HPa w1 hb).mono ?_
                 rintro e w2 ⟨rfl, hb2⟩
                 exact ⟨rfl, hb.trans (hb2.mono hb.size)⟩
               go_big_quiet_on)
            | (refine ⟨.agg #[.int .u8 b.kind, .int .i64 b.low, .int .i64 b.high, .bool b.branded, .string b.brand, .string b.opq], ?_, ?_⟩
               · intro w1 hb
                 with_reducible refine (unhide HPb w1 hb).mono ?_
                 rintro e w2 ⟨rfl, hb2⟩
                 exact ⟨rfl, hb.trans (hb2.mono hb.size)⟩
               go_big_quiet_on)
            | (apply Exists.intro
               refine ⟨fun w1 hb => ?_, ?_⟩
               · with_reducible refine (unhide HS w1 hb).mono ?_
                 rintro e w2 ⟨rfl, hb2⟩
                 exact ⟨rfl, hb.trans (hb2.mono hb.size)⟩
               go_big_quiet_on)
            | (apply Exists.intro
               refine ⟨fun w1 hb => ?_, ?_⟩
               · with_reducible refine (unhide HP w1 hb).mono ?_
                 rintro e w2 ⟨rfl, hb2⟩
                 exact ⟨rfl, hb.trans (hb2.mono hb.size)⟩
               go_big_quiet_on)
            | (apply Exists.intro
               refine ⟨fun w1 hb => ?_, ?_⟩
               · with_reducible refine (unhide HM w1 hb).mono ?_
                 rintro e w2 ⟨rfl, hb2⟩
                 exact ⟨rfl, hb.trans (hb2.mono hb.size)⟩
               go_big_quiet_on)
            | (apply Exists.intro
               refine ⟨fun w1 hb => ?_, ?_⟩
               · with_reducible refine (unhide HV w1 hb).mono ?_
                 rintro e w2 ⟨rfl, hb2⟩
                 exact ⟨rfl, hb.trans (hb2.mono hb.size)⟩
               go_big_quiet_on)))
    refine wpQuiet_nil ?_
    rintro w1 hb
    go_wp2
    go_ret
    exact ⟨ret_bool (by rw [HB.out]; simp), hW3.trans (hb.mono hW3.size)⟩
  go_enter Tryz.func114, Tryz.ntmps114
  go_wp2_with fail
  rw [← hEQ]
  clear hEQ
  refine wp_region_quiet (C := fun w' => Below W3.heap.size W3 w') (by kernel_rfl) (by kernel_rfl) (below_drewN' (Below.refl _ _) 1) ?_
  simp only []
  repeat (first
    | go_big_quiet_skip
    | (go_big_quiet_want; go_big_quiet_op; first
      | go_big_quiet_on
          | (refine ⟨_, fun _ _ => rfl, ?_⟩; go_big_quiet_on)
          | (refine ⟨.int .i64 a.super, ?_, ?_⟩
             · intro w1 hb
               have e := (hA w1 hb).cell 6
               simp [tyC] at e
               simp [e, go_sem]
               done
             go_big_quiet_on)
          | (refine ⟨.int .i64 b.super, ?_, ?_⟩
             · intro w1 hb
               have e := (hBb w1 hb).cell 6
               simp [tyC] at e
               simp [e, go_sem]
               done
             go_big_quiet_on)
          | (refine ⟨.slice o1 a.parts.length c1, ?_, ?_⟩
             · intro w1 hb
               have e := (hA w1 hb).cell 7
               simp [tyC] at e
               simp [e, go_sem]
               done
             go_big_quiet_on)
          | (refine ⟨.slice p1 b.parts.length d1, ?_, ?_⟩
             · intro w1 hb
               have e := (hBb w1 hb).cell 7
               simp [tyC] at e
               simp [e, go_sem]
               done
             go_big_quiet_on)
          | (refine ⟨.slice o2 a.meths.length c2, ?_, ?_⟩
             · intro w1 hb
               have e := (hA w1 hb).cell 8
               simp [tyC] at e
               simp [e, go_sem]
               done
             go_big_quiet_on)
          | (refine ⟨.slice p2 b.meths.length d2, ?_, ?_⟩
             · intro w1 hb
               have e := (hBb w1 hb).cell 8
               simp [tyC] at e
               simp [e, go_sem]
               done
             go_big_quiet_on)
          | (refine ⟨.slice o3 a.overs.length c3, ?_, ?_⟩
             · intro w1 hb
               have e := (hA w1 hb).cell 9
               simp [tyC] at e
               simp [e, go_sem]
               done
             go_big_quiet_on)
          | (refine ⟨.slice p3 b.overs.length d3, ?_, ?_⟩
             · intro w1 hb
               have e := (hBb w1 hb).cell 9
               simp [tyC] at e
               simp [e, go_sem]
               done
             go_big_quiet_on)
          | (refine ⟨.func (.func 158) #[] #[], ?_, ?_⟩
             · intro w1 hb
               have e := (hFt w1 hb).cell 0
               simp at e
               simp [e, go_sem]
               done
             go_big_quiet_on)
          | (refine ⟨tyVal a (.slice o1 a.parts.length c1) (.slice o2 a.meths.length c2) (.slice o3 a.overs.length c3), ?_, ?_⟩
             · intro w1 hb
               have e0 := (hA w1 hb).cell 0
               have e1 := (hA w1 hb).cell 1
               have e2 := (hA w1 hb).cell 2
               have e3 := (hA w1 hb).cell 3
               have e4 := (hA w1 hb).cell 4
               have e5 := (hA w1 hb).cell 5
               have e6 := (hA w1 hb).cell 6
               have e7 := (hA w1 hb).cell 7
               have e8 := (hA w1 hb).cell 8
               have e9 := (hA w1 hb).cell 9
               simp [tyC] at e0 e1 e2 e3 e4 e5 e6 e7 e8 e9
               simp [e0, e1, e2, e3, e4, e5, e6, e7, e8, e9, tyVal, go_sem]
               done
             go_big_quiet_on)
          | (refine ⟨tyVal b (.slice p1 b.parts.length d1) (.slice p2 b.meths.length d2) (.slice p3 b.overs.length d3), ?_, ?_⟩
             · intro w1 hb
               have e0 := (hBb w1 hb).cell 0
               have e1 := (hBb w1 hb).cell 1
               have e2 := (hBb w1 hb).cell 2
               have e3 := (hBb w1 hb).cell 3
               have e4 := (hBb w1 hb).cell 4
               have e5 := (hBb w1 hb).cell 5
               have e6 := (hBb w1 hb).cell 6
               have e7 := (hBb w1 hb).cell 7
               have e8 := (hBb w1 hb).cell 8
               have e9 := (hBb w1 hb).cell 9
               simp [tyC] at e0 e1 e2 e3 e4 e5 e6 e7 e8 e9
               simp [e0, e1, e2, e3, e4, e5, e6, e7, e8, e9, tyVal, go_sem]
               done
             go_big_quiet_on)
          | (refine ⟨.agg #[.int .u8 a.kind, .int .i64 a.low, .int .i64 a.high, .bool a.branded, .string a.brand, .string a.opq], ?_, ?_⟩
             · intro w1 hb
               with_reducible refine (unhide HPa w1 hb).mono ?_
               rintro e w2 ⟨rfl, hb2⟩
               exact ⟨rfl, hb.trans (hb2.mono hb.size)⟩
             go_big_quiet_on)
          | (refine ⟨.agg #[.int .u8 b.kind, .int .i64 b.low, .int .i64 b.high, .bool b.branded, .string b.brand, .string b.opq], ?_, ?_⟩
             · intro w1 hb
               with_reducible refine (unhide HPb w1 hb).mono ?_
               rintro e w2 ⟨rfl, hb2⟩
               exact ⟨rfl, hb.trans (hb2.mono hb.size)⟩
             go_big_quiet_on)
          | (apply Exists.intro
             refine ⟨fun w1 hb => ?_, ?_⟩
             · with_reducible refine (unhide HS w1 hb).mono ?_
               rintro e w2 ⟨rfl, hb2⟩
               exact ⟨rfl, hb.trans (hb2.mono hb.size)⟩
             go_big_quiet_on)
          | (apply Exists.intro
             refine ⟨fun w1 hb => ?_, ?_⟩
             · with_reducible refine (unhide HP w1 hb).mono ?_
               rintro e w2 ⟨rfl, hb2⟩
               exact ⟨rfl, hb.trans (hb2.mono hb.size)⟩
             go_big_quiet_on)
          | (apply Exists.intro
             refine ⟨fun w1 hb => ?_, ?_⟩
             · with_reducible refine (unhide HM w1 hb).mono ?_
               rintro e w2 ⟨rfl, hb2⟩
               exact ⟨rfl, hb.trans (hb2.mono hb.size)⟩
             go_big_quiet_on)
          | (apply Exists.intro
             refine ⟨fun w1 hb => ?_, ?_⟩
             · with_reducible refine (unhide HV w1 hb).mono ?_
               rintro e w2 ⟨rfl, hb2⟩
               exact ⟨rfl, hb.trans (hb2.mono hb.size)⟩
             go_big_quiet_on)))
  refine wpQuiet_nil ?_
  rintro w1 hb
  go_wp2
  go_ret
  exact ⟨ret_bool (by rw [HB.out]; simp), hW3.trans (hb.mono hW3.size)⟩
end Go.Proofs.YteaokkaidcbdlaaGreatDoor
/- Agree, and what leasts' function of an item asks. -/
namespace Go.Proofs.YteaokkaidcbdlaaGreatDoor
open Go Go.RowKit Go.Shelf
theorem agree_any (a b : TyD) (va1 va2 va3 vb1 vb2 vb3 : Value) (W : World) (ha : TyL W va1 va2 va3 a) (hb : TyL W vb1 vb2 vb3 b) :
    Calls Tryz.prog 103 #[tyVal a va1 va2 va3, tyVal b vb1 vb2 vb3] W fun e w' => e = .returned (.bool (agreeB a b)) ∧ Below W.heap.size W w' := by
  have hC := hide (fun W' (h : Below W.heap.size W W') => areAlike_any a b va1 va2 va3 vb1 vb2 vb3 W' (ha.go (.below h)) (hb.go (.below h)))
  have hbel : ∀ o1 o2, Below W.heap.size W ((W.alloc o1).alloc o2) := fun o1 o2 => ((Below.refl _ _).alloc (Nat.le_refl _) _).alloc (by simp) _
  unfold tyVal at hC ⊢
  clear ha hb
  go_enter Tryz.func103, Tryz.ntmps103
  go_wp2_with (first | (go_at_call 114; refine (unhide hC _ (hbel _ _)).mono ?_; rintro e w4 ⟨rfl, hb4⟩))
  go_ret
  exact ⟨rfl, (hbel _ _).trans (hb4.mono (hbel _ _).size)⟩
/-- One more item: it joins the first that is the same, or is a first itself. -/
def stepL (same : Nat → Nat → Bool) (st : List Nat × List Nat) (i : Nat) : List Nat × List Nat :=
  match st.1.findIdx? (fun f => same f i) with
  | none => (st.1 ++ [i], st.2 ++ [i])
  | some j => (st.1, st.2 ++ [st.1.getD j 0])
def leastsS (same : Nat → Nat → Bool) (n : Nat) : List Nat × List Nat := (List.range n).foldl (stepL same) ([], [])
theorem leastsS_succ (same : Nat → Nat → Bool) (n : Nat) : leastsS same (n + 1) = stepL same (leastsS same n) n := by
  unfold leastsS; rw [List.range_succ, List.foldl_append]; rfl
theorem leastsS_len (same : Nat → Nat → Bool) (n : Nat) : (leastsS same n).2.length = n ∧ (leastsS same n).1.length ≤ n ∧ ∀ f ∈ (leastsS same n).1, f < n := by
  induction n with
  | zero => exact ⟨rfl, Nat.le_refl _, fun f h => by simp [leastsS] at h⟩
  | succ n ih =>
    rw [leastsS_succ]
    unfold stepL
    obtain ⟨h1, h2, h3⟩ := ih
    split
    · refine ⟨by simp [h1], by simp; omega, fun f hf => ?_⟩
      simp at hf
      rcases hf with hf | rfl
      · have := h3 f hf; omega
      · omega
    · exact ⟨by simp [h1], by simp; omega, fun f hf => by have := h3 f hf; omega⟩
/-- The place of the first number that is, or -1. -/
def idxI (p : Nat → Bool) (l : List Nat) : Int := match l.findIdx? p with | some j => j | none => -1
theorem idxI_at {p : Nat → Bool} {l : List Nat} {k : Nat} (h : k < l.length) (ha : (l.take k).all (fun f => !p f) = true) (hp : p l[k] = true) : idxI p l = k := by
  unfold idxI
  have : l.findIdx? p = some k := by
    rw [List.findIdx?_eq_some_iff_getElem]
    refine ⟨h, hp, fun j hj => ?_⟩
    have := List.all_eq_true.1 ha l[j] (by rw [List.mem_take_iff_getElem]; exact ⟨j, by omega, rfl⟩)
    simpa using this
  rw [this]
theorem idxI_none {p : Nat → Bool} {l : List Nat} (ha : l.all (fun f => !p f) = true) : idxI p l = -1 := by
  unfold idxI
  have : l.findIdx? p = none := by
    rw [List.findIdx?_eq_none_iff]
    intro x hx
    simpa using List.all_eq_true.1 ha x hx
  rw [this]
def natI (n : Nat) : Value := .int .i64 n
/-- What leasts' function of an item asks, wherever the items lie. -/
structure Ask157 (W : World) (fb ib tb : Nat) (o : Option Addr) (cap : Nat) (G : List TyD) (t : TyD) : Prop where
  f : W.cell? ⟨fb, 0, none⟩ = some (.func (.func 103) #[] #[])
  i : W.cell? ⟨ib, 0, none⟩ = some (.slice o G.length cap)
  g : GrAt W (.slice o G.length cap) G
  t : ∃ v1 v2 v3, TyL W v1 v2 v3 t ∧ ∀ j u, (tyC t v1 v2 v3)[j]? = some u → W.cell? ⟨tb, j, none⟩ = some u
theorem Ask157.below {W W' : World} {fb ib tb : Nat} {o : Option Addr} {cap : Nat} {G : List TyD} {t : TyD} (h : Ask157 W fb ib tb o cap G t) (hb : Below W.heap.size W W') : Ask157 W' fb ib tb o cap G t := by
  have hh := Holds.below hb
  obtain ⟨v1, v2, v3, hl, hc⟩ := h.t
  exact ⟨hh _ _ h.f, hh _ _ h.i, h.g.go hh, v1, v2, v3, hl.go hh, fun j u hu => hh _ _ (hc j u hu)⟩
set_option maxRecDepth 100000 in
set_option maxHeartbeats 8000000 in
theorem ask157_any (fb ib tb : Nat) (o : Option Addr) (cap : Nat) (G : List TyD) (t : TyD) (k : Nat) (hk : k < G.length) (W : World) (h : Ask157 W fb ib tb o cap G t) :
    Calls Tryz.prog 157 #[.int .i64 k, .pointer (some ⟨fb, 0, none⟩), .pointer (some ⟨ib, 0, none⟩), .pointer (some ⟨tb, 0, none⟩)] W fun e w' => e = .returned (.bool (agreeB G[k] t)) ∧ Below W.heap.size W w' := by
  obtain ⟨v1, v2, v3, hl, hc⟩ := h.t
  obtain ⟨_, _, _, hat⟩ := h.g.at
  obtain ⟨b, off, rfl, u1, u2, u3, gl, k0, k1, k2, k3, k4, k5, k6, k7, k8, k9⟩ := hat k G[k] (List.getElem?_eq_getElem hk)
  have hA := hide (fun W' (hb : Below W.heap.size W W') => agree_any G[k] t u1 u2 u3 v1 v2 v3 W' (gl.go (.below hb)) (hl.go (.below hb)))
  have hF : ∀ W', Below W.heap.size W W' → W'.cell? ⟨fb, 0, none⟩ = some (.func (.func 103) #[] #[]) := fun W' hb => Holds.below hb _ _ h.f
  have hI : ∀ W', Below W.heap.size W W' → W'.cell? ⟨ib, 0, none⟩ = some (.slice (some ⟨b, off, none⟩) G.length cap) := fun W' hb => Holds.below hb _ _ h.i
  have hT : ∀ W', Below W.heap.size W W' → ∀ j u, (tyC t v1 v2 v3)[j]? = some u → W'.cell? ⟨tb, j, none⟩ = some u := fun W' hb j u hu => Holds.below hb _ _ (hc j u hu)
  have hK : ∀ W', Below W.heap.size W W' → ∀ j u, (tyC G[k] u1 u2 u3)[j]? = some u → W'.cell? ⟨b, off + k * 10 + j, none⟩ = some u := fun W' hb j u hu => by
    refine Holds.below hb _ _ ?_
    match j with
    | 0 => simp [tyC] at hu; subst hu; exact k0
    | 1 => simp [tyC] at hu; subst hu; exact k1
    | 2 => simp [tyC] at hu; subst hu; exact k2
    | 3 => simp [tyC] at hu; subst hu; exact k3
    | 4 => simp [tyC] at hu; subst hu; exact k4
    | 5 => simp [tyC] at hu; subst hu; exact k5
    | 6 => simp [tyC] at hu; subst hu; exact k6
    | 7 => simp [tyC] at hu; subst hu; exact k7
    | 8 => simp [tyC] at hu; subst hu; exact k8
    | 9 => simp [tyC] at hu; subst hu; exact k9
    | j + 10 => simp [tyC] at hu
  have hk' : (k : Int) < G.length := by omega
  clear hat k0 k1 k2 k3 k4 k5 k6 k7 k8 k9 hl hc gl h
  generalize agreeB G[k] t = x at hA ⊢
  generalize G[k] = g at hA hK
  go_enter Tryz.func157, Tryz.ntmps157
  go_wp2_with fail
  refine wp_region_quiet (C := fun w' => Below W.heap.size W w') (by kernel_rfl) (by kernel_rfl) (below_drewN' (Below.refl _ _) 1) ?_
  simp only []
  repeat (first
    | go_big_quiet_skip
    | (go_big_quiet_want; go_big_quiet_op; first
      | go_big_quiet_on
      | (refine ⟨_, fun _ _ => rfl, ?_⟩; go_big_quiet_on)
      | (refine ⟨.func (.func 103) #[] #[], ?_, ?_⟩
         · intro w1 hb
           have e := hF w1 hb
           simp [e, go_sem]
           done
         go_big_quiet_on)
      | (refine ⟨.slice (some ⟨b, off, none⟩) G.length cap, ?_, ?_⟩
         · intro w1 hb
           have e := hI w1 hb
           simp [e, go_sem]
           done
         go_big_quiet_on)
      | (refine ⟨tyVal g u1 u2 u3, ?_, ?_⟩
         · intro w1 hb
           have e0 := hK w1 hb 0 _ rfl
           have e1 := hK w1 hb 1 _ rfl
           have e2 := hK w1 hb 2 _ rfl
           have e3 := hK w1 hb 3 _ rfl
           have e4 := hK w1 hb 4 _ rfl
           have e5 := hK w1 hb 5 _ rfl
           have e6 := hK w1 hb 6 _ rfl
           have e7 := hK w1 hb 7 _ rfl
           have e8 := hK w1 hb 8 _ rfl
           have e9 := hK w1 hb 9 _ rfl
           rw [Nat.add_zero] at e0
           simp [e0, e1, e2, e3, e4, e5, e6, e7, e8, e9, tyVal, go_sem]
           done
         go_big_quiet_on)
      | (refine ⟨tyVal t v1 v2 v3, ?_, ?_⟩
         · intro w1 hb
           have e0 := hT w1 hb 0 _ rfl
           have e1 := hT w1 hb 1 _ rfl
           have e2 := hT w1 hb 2 _ rfl
           have e3 := hT w1 hb 3 _ rfl
           have e4 := hT w1 hb 4 _ rfl
           have e5 := hT w1 hb 5 _ rfl
           have e6 := hT w1 hb 6 _ rfl
           have e7 := hT w1 hb 7 _ rfl
           have e8 := hT w1 hb 8 _ rfl
           have e9 := hT w1 hb 9 _ rfl
           simp [e0, e1, e2, e3, e4, e5, e6, e7, e8, e9, tyVal, go_sem]
           done
         go_big_quiet_on)
      | (apply Exists.intro
         refine ⟨fun w1 hb => ?_, ?_⟩
         · with_reducible refine (unhide hA w1 hb).mono ?_
           rintro e w2 ⟨rfl, hb2⟩
           exact ⟨rfl, hb.trans (hb2.mono hb.size)⟩
         go_big_quiet_on)))
  refine wpQuiet_nil ?_
  rintro w1 hb
  go_wp2
  go_ret
  exact ⟨rfl, hb⟩
end Go.Proofs.YteaokkaidcbdlaaGreatDoor
