/- Part 6 of 53: the texts Bt, Nt, one behind the other. -/
import Derived.Test.YteaokkaidcbdlaaGreatDoorM5
namespace Go.Proofs.YteaokkaidcbdlaaGreatDoor
open Go Go.RowKit Go.Shelf
def tyVal (t : TyD) (vp vm vo : Value) : Value := .agg #[.int .u8 t.kind, .int .i64 t.low, .int .i64 t.high, .bool t.branded, .string t.brand, .string t.opq, .int .i64 t.super, vp, vm, vo]
def plainV (t : TyD) : Value := .agg #[.int .u8 t.kind, .int .i64 t.low, .int .i64 t.high, .bool t.branded, .string t.brand, .string t.opq]
set_option maxHeartbeats 4000000 in
theorem plainOf_any (t : TyD) (vp vm vo : Value) (w : World) : Calls Tryz.prog 153 #[tyVal t vp vm vo] w fun e w' => e = .returned (plainV t) ∧ Below w.heap.size w w' := by
 unfold tyVal plainV
 go_enter Tryz.func153, Tryz.ntmps153
 go_wp2
 refine bodyPost_ret (v := plainV t) ?_ rfl ⟨rfl, ((Below.refl _ _).alloc (Nat.le_refl _) _).alloc (by simp) _⟩
 simp [results, Tryz.results153, go_sem, plainV]
def tabV : Array Value := #[.nilFunc, .func (.func 148) #[] #[], .func (.func 148) #[] #[], .func (.methodOf 189 "trestle/types.bounds") #[] #[], .func (.func 148) #[] #[], .func (.func 148) #[] #[], .func (.func 148) #[] #[], .func (.func 148) #[] #[], .func (.func 148) #[] #[],
 .func (.func 149) #[] #[], .func (.func 150) #[] #[], .func (.func 149) #[] #[], .func (.func 151) #[] #[], .func (.func 152) #[] #[]]
def bareB (t : TyD) (n : Nat) : Bool := (((decide (t.low = 0) && decide (t.high = 0)) && (!t.branded && ((bs t.brand).isEmpty && (bs t.opq).isEmpty))) && decide (t.super = 0)) && decide (n = 0)
set_option maxRecDepth 100000 in
set_option maxHeartbeats 16000000 in
theorem isBare_any (t : TyD) (op om oo : Option Addr) (np nm no cp cm co : Nat) (hs : np + nm + no ≤ 1000000) (w : World) :
    Calls Tryz.prog 93 #[tyVal t (.slice op np cp) (.slice om nm cm) (.slice oo no co)] w fun e w' => e = .returned (.bool (bareB t (np + nm + no))) ∧ Below w.heap.size w w' := by
  obtain ⟨kind, low, high, branded, brand, opq, super, parts, meths, overs⟩ := t
  have HP := hide (plainOf_any ⟨kind, low, high, branded, brand, opq, super, parts, meths, overs⟩ (.slice op np cp) (.slice om nm cm) (.slice oo no co))
  have hU : tyVal ⟨kind, low, high, branded, brand, opq, super, parts, meths, overs⟩ (.slice op np cp) (.slice om nm cm) (.slice oo no co) = .agg #[.int .u8 kind, .int .i64 low, .int .i64 high, .bool branded, .string brand, .string opq, .int .i64 super, .slice op np cp, .slice om nm cm, .slice oo no co] := rfl
  have hbE : brand.toList.isEmpty = (bs brand).isEmpty := by rw [toList_bs]
  have hoE : opq.toList.isEmpty = (bs opq).isEmpty := by rw [toList_bs]
  obtain ⟨x, HB, hx⟩ : ∃ x, Hid (bareB ⟨kind, low, high, branded, brand, opq, super, parts, meths, overs⟩ (np + nm + no) = x) ∧ ((x = false ∧ (low == 0) = false) ∨ (x = false ∧ (low == 0) = true ∧ (high == 0) = false) ∨ (x = false ∧ (low == 0) = true ∧ (high == 0) = true ∧ branded = true) ∨
      (x = false ∧ (low == 0) = true ∧ (high == 0) = true ∧ branded = false ∧ brand.toList.isEmpty = false) ∨ (x = false ∧ (low == 0) = true ∧ (high == 0) = true ∧ branded = false ∧ brand.toList.isEmpty = true ∧ opq.toList.isEmpty = false) ∨
      (x = false ∧ (low == 0) = true ∧ (high == 0) = true ∧ branded = false ∧ brand.toList.isEmpty = true ∧ opq.toList.isEmpty = true ∧ (super == 0) = false) ∨
      (x = decide (np + nm + no = 0) ∧ (low == 0) = true ∧ (high == 0) = true ∧ branded = false ∧ brand.toList.isEmpty = true ∧ opq.toList.isEmpty = true ∧ (super == 0) = true)) := by
    refine ⟨_, Lib.hid rfl, ?_⟩
    unfold bareB
    rw [hbE, hoE]
    by_cases h1 : low = 0 <;> by_cases h2 : high = 0 <;> cases branded <;> cases (bs brand).isEmpty <;> cases (bs opq).isEmpty <;> by_cases h3 : super = 0 <;> simp [h1, h2, h3]
  clear hbE hoE
  rw [hU]
  clear hU
  rcases hx with ⟨rfl, a1⟩ | ⟨rfl, a1, a2⟩ | ⟨rfl, a1, a2, rfl⟩ | ⟨rfl, a1, a2, rfl, a4⟩ | ⟨rfl, a1, a2, rfl, a4, a5⟩ | ⟨rfl, a1, a2, rfl, a4, a5, a6⟩ | ⟨hxx, a1, a2, rfl, a4, a5, a6⟩
  ·go_enter Tryz.func93, Tryz.ntmps93
   go_wp2_with fail
   refine wp_region_quiet (C := fun w' => Blk w' w.heap.size (tyC ⟨kind, low, high, branded, brand, opq, super, parts, meths, overs⟩ (.slice op np cp) (.slice om nm cm) (.slice oo no co)) 62 ∧ Below w.heap.size w w') (by kernel_rfl) (by kernel_rfl) ?_ ?_
   ·exact ⟨Blk.new w (tyC ⟨kind, low, high, branded, brand, opq, super, parts, meths, overs⟩ (.slice op np cp) (.slice om nm cm) (.slice oo no co)) 62, below_drewN' ((Below.refl w.heap.size w).alloc (Nat.le_refl _) _) 1⟩
   simp only []
   repeat (first
    | go_big_quiet_skip
    | (go_big_quiet_want; go_big_quiet_op; first
      | go_big_quiet_on
      | (refine ⟨_, fun _ _ _ => rfl, ?_⟩; go_big_quiet_on)
      | (refine ⟨tyVal ⟨kind, low, high, branded, brand, opq, super, parts, meths, overs⟩ (.slice op np cp) (.slice om nm cm) (.slice oo no co), ?_, ?_⟩
         ·intro w1 h1 h2
          have c0 := h1.cell 0
          have c1 := h1.cell 1
          have c2 := h1.cell 2
          have c3 := h1.cell 3
          have c4 := h1.cell 4
          have c5 := h1.cell 5
          have c6 := h1.cell 6
          have c7 := h1.cell 7
          have c8 := h1.cell 8
          have c9 := h1.cell 9
          simp [tyC] at c0 c1 c2 c3 c4 c5 c6 c7 c8 c9
          simp [c0, c1, c2, c3, c4, c5, c6, c7, c8, c9, tyVal, go_sem]
          done
         go_big_quiet_on)
      | (refine ⟨.agg #[.int .u8 kind, .int .i64 low, .int .i64 high, .bool branded, .string brand, .string opq], ?_, ?_⟩
         ·intro w1 h1 h2
          refine (unhide HP w1).mono ?_
          rintro e w2 ⟨rfl, hb⟩
          exact ⟨rfl, h1.below hb h1.lt, h2.trans (hb.mono h2.size)⟩
         go_big_quiet_on)
      | (refine ⟨.int .u8 kind, ?_, ?_⟩
         ·intro w1 h1 h2
          have c := h1.cell 0
          simp [tyC] at c
          simp [c, go_sem]
          done
         go_big_quiet_on)
      | (refine ⟨.int .i64 super, ?_, ?_⟩
         ·intro w1 h1 h2
          have c := h1.cell 6
          simp [tyC] at c
          simp [c, go_sem]
          done
         go_big_quiet_on)
      | (refine ⟨.slice op np cp, ?_, ?_⟩
         ·intro w1 h1 h2
          have c := h1.cell 7
          simp [tyC] at c
          simp [c, go_sem]
          done
         go_big_quiet_on)
      | (refine ⟨.slice om nm cm, ?_, ?_⟩
         ·intro w1 h1 h2
          have c := h1.cell 8
          simp [tyC] at c
          simp [c, go_sem]
          done
         go_big_quiet_on)
      | (refine ⟨.slice oo no co, ?_, ?_⟩
         ·intro w1 h1 h2
          have c := h1.cell 9
          simp [tyC] at c
          simp [c, go_sem]
          done
         go_big_quiet_on)))
   refine wpQuiet_nil ?_
   rintro w1 ⟨h1, h2⟩
   go_wp2
   go_ret
   exact ⟨ret_bool (by rw [HB.out]), h2⟩
  ·go_enter Tryz.func93, Tryz.ntmps93
   go_wp2_with fail
   refine wp_region_quiet (C := fun w' => Blk w' w.heap.size (tyC ⟨kind, low, high, branded, brand, opq, super, parts, meths, overs⟩ (.slice op np cp) (.slice om nm cm) (.slice oo no co)) 62 ∧ Below w.heap.size w w') (by kernel_rfl) (by kernel_rfl) ?_ ?_
   ·exact ⟨Blk.new w (tyC ⟨kind, low, high, branded, brand, opq, super, parts, meths, overs⟩ (.slice op np cp) (.slice om nm cm) (.slice oo no co)) 62, below_drewN' ((Below.refl w.heap.size w).alloc (Nat.le_refl _) _) 1⟩
   simp only []
   repeat (first
    | go_big_quiet_skip
    | (go_big_quiet_want; go_big_quiet_op; first
      | go_big_quiet_on
      | (refine ⟨_, fun _ _ _ => rfl, ?_⟩; go_big_quiet_on)
      | (refine ⟨tyVal ⟨kind, low, high, branded, brand, opq, super, parts, meths, overs⟩ (.slice op np cp) (.slice om nm cm) (.slice oo no co), ?_, ?_⟩
         ·intro w1 h1 h2
          have c0 := h1.cell 0
          have c1 := h1.cell 1
          have c2 := h1.cell 2
          have c3 := h1.cell 3
          have c4 := h1.cell 4
          have c5 := h1.cell 5
          have c6 := h1.cell 6
          have c7 := h1.cell 7
          have c8 := h1.cell 8
          have c9 := h1.cell 9
          simp [tyC] at c0 c1 c2 c3 c4 c5 c6 c7 c8 c9
          simp [c0, c1, c2, c3, c4, c5, c6, c7, c8, c9, tyVal, go_sem]
          done
         go_big_quiet_on)
      | (refine ⟨.agg #[.int .u8 kind, .int .i64 low, .int .i64 high, .bool branded, .string brand, .string opq], ?_, ?_⟩
         ·intro w1 h1 h2
          refine (unhide HP w1).mono ?_
          rintro e w2 ⟨rfl, hb⟩
          exact ⟨rfl, h1.below hb h1.lt, h2.trans (hb.mono h2.size)⟩
         go_big_quiet_on)
      | (refine ⟨.int .u8 kind, ?_, ?_⟩
         ·intro w1 h1 h2
          have c := h1.cell 0
          simp [tyC] at c
          simp [c, go_sem]
          done
         go_big_quiet_on)
      | (refine ⟨.int .i64 super, ?_, ?_⟩
         ·intro w1 h1 h2
          have c := h1.cell 6
          simp [tyC] at c
          simp [c, go_sem]
          done
         go_big_quiet_on)
      | (refine ⟨.slice op np cp, ?_, ?_⟩
         ·intro w1 h1 h2
          have c := h1.cell 7
          simp [tyC] at c
          simp [c, go_sem]
          done
         go_big_quiet_on)
      | (refine ⟨.slice om nm cm, ?_, ?_⟩
         ·intro w1 h1 h2
          have c := h1.cell 8
          simp [tyC] at c
          simp [c, go_sem]
          done
         go_big_quiet_on)
      | (refine ⟨.slice oo no co, ?_, ?_⟩
         ·intro w1 h1 h2
          have c := h1.cell 9
          simp [tyC] at c
          simp [c, go_sem]
          done
         go_big_quiet_on)))
   refine wpQuiet_nil ?_
   rintro w1 ⟨h1, h2⟩
   go_wp2
   go_ret
   exact ⟨ret_bool (by rw [HB.out]), h2⟩
  ·go_enter Tryz.func93, Tryz.ntmps93
   go_wp2_with fail
   refine wp_region_quiet (C := fun w' => Blk w' w.heap.size (tyC ⟨kind, low, high, true, brand, opq, super, parts, meths, overs⟩ (.slice op np cp) (.slice om nm cm) (.slice oo no co)) 62 ∧ Below w.heap.size w w') (by kernel_rfl) (by kernel_rfl) ?_ ?_
   ·exact ⟨Blk.new w (tyC ⟨kind, low, high, true, brand, opq, super, parts, meths, overs⟩ (.slice op np cp) (.slice om nm cm) (.slice oo no co)) 62, below_drewN' ((Below.refl w.heap.size w).alloc (Nat.le_refl _) _) 1⟩
   simp only []
   repeat (first
    | go_big_quiet_skip
    | (go_big_quiet_want; go_big_quiet_op; first
      | go_big_quiet_on
      | (refine ⟨_, fun _ _ _ => rfl, ?_⟩; go_big_quiet_on)
      | (refine ⟨tyVal ⟨kind, low, high, true, brand, opq, super, parts, meths, overs⟩ (.slice op np cp) (.slice om nm cm) (.slice oo no co), ?_, ?_⟩
         ·intro w1 h1 h2
          have c0 := h1.cell 0
          have c1 := h1.cell 1
          have c2 := h1.cell 2
          have c3 := h1.cell 3
          have c4 := h1.cell 4
          have c5 := h1.cell 5
          have c6 := h1.cell 6
          have c7 := h1.cell 7
          have c8 := h1.cell 8
          have c9 := h1.cell 9
          simp [tyC] at c0 c1 c2 c3 c4 c5 c6 c7 c8 c9
          simp [c0, c1, c2, c3, c4, c5, c6, c7, c8, c9, tyVal, go_sem]
          done
         go_big_quiet_on)
      | (refine ⟨.agg #[.int .u8 kind, .int .i64 low, .int .i64 high, .bool true, .string brand, .string opq], ?_, ?_⟩
         ·intro w1 h1 h2
          refine (unhide HP w1).mono ?_
          rintro e w2 ⟨rfl, hb⟩
          exact ⟨rfl, h1.below hb h1.lt, h2.trans (hb.mono h2.size)⟩
         go_big_quiet_on)
      | (refine ⟨.int .u8 kind, ?_, ?_⟩
         ·intro w1 h1 h2
          have c := h1.cell 0
          simp [tyC] at c
          simp [c, go_sem]
          done
         go_big_quiet_on)
      | (refine ⟨.int .i64 super, ?_, ?_⟩
         ·intro w1 h1 h2
          have c := h1.cell 6
          simp [tyC] at c
          simp [c, go_sem]
          done
         go_big_quiet_on)
      | (refine ⟨.slice op np cp, ?_, ?_⟩
         ·intro w1 h1 h2
          have c := h1.cell 7
          simp [tyC] at c
          simp [c, go_sem]
          done
         go_big_quiet_on)
      | (refine ⟨.slice om nm cm, ?_, ?_⟩
         ·intro w1 h1 h2
          have c := h1.cell 8
          simp [tyC] at c
          simp [c, go_sem]
          done
         go_big_quiet_on)
      | (refine ⟨.slice oo no co, ?_, ?_⟩
         ·intro w1 h1 h2
          have c := h1.cell 9
          simp [tyC] at c
          simp [c, go_sem]
          done
         go_big_quiet_on)))
   refine wpQuiet_nil ?_
   rintro w1 ⟨h1, h2⟩
   go_wp2
   go_ret
   exact ⟨ret_bool (by rw [HB.out]), h2⟩
  ·go_enter Tryz.func93, Tryz.ntmps93
   go_wp2_with fail
   refine wp_region_quiet (C := fun w' => Blk w' w.heap.size (tyC ⟨kind, low, high, false, brand, opq, super, parts, meths, overs⟩ (.slice op np cp) (.slice om nm cm) (.slice oo no co)) 62 ∧ Below w.heap.size w w') (by kernel_rfl) (by kernel_rfl) ?_ ?_
   ·exact ⟨Blk.new w (tyC ⟨kind, low, high, false, brand, opq, super, parts, meths, overs⟩ (.slice op np cp) (.slice om nm cm) (.slice oo no co)) 62, below_drewN' ((Below.refl w.heap.size w).alloc (Nat.le_refl _) _) 1⟩
   simp only []
   repeat (first
    | go_big_quiet_skip
    | (go_big_quiet_want; go_big_quiet_op; first
      | go_big_quiet_on
      | (refine ⟨_, fun _ _ _ => rfl, ?_⟩; go_big_quiet_on)
      | (refine ⟨tyVal ⟨kind, low, high, false, brand, opq, super, parts, meths, overs⟩ (.slice op np cp) (.slice om nm cm) (.slice oo no co), ?_, ?_⟩
         ·intro w1 h1 h2
          have c0 := h1.cell 0
          have c1 := h1.cell 1
          have c2 := h1.cell 2
          have c3 := h1.cell 3
          have c4 := h1.cell 4
          have c5 := h1.cell 5
          have c6 := h1.cell 6
          have c7 := h1.cell 7
          have c8 := h1.cell 8
          have c9 := h1.cell 9
          simp [tyC] at c0 c1 c2 c3 c4 c5 c6 c7 c8 c9
          simp [c0, c1, c2, c3, c4, c5, c6, c7, c8, c9, tyVal, go_sem]
          done
         go_big_quiet_on)
      | (refine ⟨.agg #[.int .u8 kind, .int .i64 low, .int .i64 high, .bool false, .string brand, .string opq], ?_, ?_⟩
         ·intro w1 h1 h2
          refine (unhide HP w1).mono ?_
          rintro e w2 ⟨rfl, hb⟩
          exact ⟨rfl, h1.below hb h1.lt, h2.trans (hb.mono h2.size)⟩
         go_big_quiet_on)
      | (refine ⟨.int .u8 kind, ?_, ?_⟩
         ·intro w1 h1 h2
          have c := h1.cell 0
          simp [tyC] at c
          simp [c, go_sem]
          done
         go_big_quiet_on)
      | (refine ⟨.int .i64 super, ?_, ?_⟩
         ·intro w1 h1 h2
          have c := h1.cell 6
          simp [tyC] at c
          simp [c, go_sem]
          done
         go_big_quiet_on)
      | (refine ⟨.slice op np cp, ?_, ?_⟩
         ·intro w1 h1 h2
          have c := h1.cell 7
          simp [tyC] at c
          simp [c, go_sem]
          done
         go_big_quiet_on)
      | (refine ⟨.slice om nm cm, ?_, ?_⟩
         ·intro w1 h1 h2
          have c := h1.cell 8
          simp [tyC] at c
          simp [c, go_sem]
          done
         go_big_quiet_on)
      | (refine ⟨.slice oo no co, ?_, ?_⟩
         ·intro w1 h1 h2
          have c := h1.cell 9
          simp [tyC] at c
          simp [c, go_sem]
          done
         go_big_quiet_on)))
   refine wpQuiet_nil ?_
   rintro w1 ⟨h1, h2⟩
   go_wp2
   go_ret
   exact ⟨ret_bool (by rw [HB.out]), h2⟩
  ·go_enter Tryz.func93, Tryz.ntmps93
   go_wp2_with fail
   refine wp_region_quiet (C := fun w' => Blk w' w.heap.size (tyC ⟨kind, low, high, false, brand, opq, super, parts, meths, overs⟩ (.slice op np cp) (.slice om nm cm) (.slice oo no co)) 62 ∧ Below w.heap.size w w') (by kernel_rfl) (by kernel_rfl) ?_ ?_
   ·exact ⟨Blk.new w (tyC ⟨kind, low, high, false, brand, opq, super, parts, meths, overs⟩ (.slice op np cp) (.slice om nm cm) (.slice oo no co)) 62, below_drewN' ((Below.refl w.heap.size w).alloc (Nat.le_refl _) _) 1⟩
   simp only []
   repeat (first
    | go_big_quiet_skip
    | (go_big_quiet_want; go_big_quiet_op; first
      | go_big_quiet_on
      | (refine ⟨_, fun _ _ _ => rfl, ?_⟩; go_big_quiet_on)
      | (refine ⟨tyVal ⟨kind, low, high, false, brand, opq, super, parts, meths, overs⟩ (.slice op np cp) (.slice om nm cm) (.slice oo no co), ?_, ?_⟩
         ·intro w1 h1 h2
          have c0 := h1.cell 0
          have c1 := h1.cell 1
          have c2 := h1.cell 2
          have c3 := h1.cell 3
          have c4 := h1.cell 4
          have c5 := h1.cell 5
          have c6 := h1.cell 6
          have c7 := h1.cell 7
          have c8 := h1.cell 8
          have c9 := h1.cell 9
          simp [tyC] at c0 c1 c2 c3 c4 c5 c6 c7 c8 c9
          simp [c0, c1, c2, c3, c4, c5, c6, c7, c8, c9, tyVal, go_sem]
          done
         go_big_quiet_on)
      | (refine ⟨.agg #[.int .u8 kind, .int .i64 low, .int .i64 high, .bool false, .string brand, .string opq], ?_, ?_⟩
         ·intro w1 h1 h2
          refine (unhide HP w1).mono ?_
          rintro e w2 ⟨rfl, hb⟩
          exact ⟨rfl, h1.below hb h1.lt, h2.trans (hb.mono h2.size)⟩
         go_big_quiet_on)
      | (refine ⟨.int .u8 kind, ?_, ?_⟩
         ·intro w1 h1 h2
          have c := h1.cell 0
          simp [tyC] at c
          simp [c, go_sem]
          done
         go_big_quiet_on)
      | (refine ⟨.int .i64 super, ?_, ?_⟩
         ·intro w1 h1 h2
          have c := h1.cell 6
          simp [tyC] at c
          simp [c, go_sem]
          done
         go_big_quiet_on)
      | (refine ⟨.slice op np cp, ?_, ?_⟩
         ·intro w1 h1 h2
          have c := h1.cell 7
          simp [tyC] at c
          simp [c, go_sem]
          done
         go_big_quiet_on)
      | (refine ⟨.slice om nm cm, ?_, ?_⟩
         ·intro w1 h1 h2
          have c := h1.cell 8
          simp [tyC] at c
          simp [c, go_sem]
          done
         go_big_quiet_on)
      | (refine ⟨.slice oo no co, ?_, ?_⟩
         ·intro w1 h1 h2
          have c := h1.cell 9
          simp [tyC] at c
          simp [c, go_sem]
          done
         go_big_quiet_on)))
   refine wpQuiet_nil ?_
   rintro w1 ⟨h1, h2⟩
   go_wp2
   go_ret
   exact ⟨ret_bool (by rw [HB.out]), h2⟩
  ·go_enter Tryz.func93, Tryz.ntmps93
   go_wp2_with fail
   refine wp_region_quiet (C := fun w' => Blk w' w.heap.size (tyC ⟨kind, low, high, false, brand, opq, super, parts, meths, overs⟩ (.slice op np cp) (.slice om nm cm) (.slice oo no co)) 62 ∧ Below w.heap.size w w') (by kernel_rfl) (by kernel_rfl) ?_ ?_
   ·exact ⟨Blk.new w (tyC ⟨kind, low, high, false, brand, opq, super, parts, meths, overs⟩ (.slice op np cp) (.slice om nm cm) (.slice oo no co)) 62, below_drewN' ((Below.refl w.heap.size w).alloc (Nat.le_refl _) _) 1⟩
   simp only []
   repeat (first
    | go_big_quiet_skip
    | (go_big_quiet_want; go_big_quiet_op; first
      | go_big_quiet_on
      | (refine ⟨_, fun _ _ _ => rfl, ?_⟩; go_big_quiet_on)
      | (refine ⟨tyVal ⟨kind, low, high, false, brand, opq, super, parts, meths, overs⟩ (.slice op np cp) (.slice om nm cm) (.slice oo no co), ?_, ?_⟩
         ·intro w1 h1 h2
          have c0 := h1.cell 0
          have c1 := h1.cell 1
          have c2 := h1.cell 2
          have c3 := h1.cell 3
          have c4 := h1.cell 4
          have c5 := h1.cell 5
          have c6 := h1.cell 6
          have c7 := h1.cell 7
          have c8 := h1.cell 8
          have c9 := h1.cell 9
          simp [tyC] at c0 c1 c2 c3 c4 c5 c6 c7 c8 c9
          simp [c0, c1, c2, c3, c4, c5, c6, c7, c8, c9, tyVal, go_sem]
          done
         go_big_quiet_on)
      | (refine ⟨.agg #[.int .u8 kind, .int .i64 low, .int .i64 high, .bool false, .string brand, .string opq], ?_, ?_⟩
         ·intro w1 h1 h2
          refine (unhide HP w1).mono ?_
          rintro e w2 ⟨rfl, hb⟩
          exact ⟨rfl, h1.below hb h1.lt, h2.trans (hb.mono h2.size)⟩
         go_big_quiet_on)
      | (refine ⟨.int .u8 kind, ?_, ?_⟩
         ·intro w1 h1 h2
          have c := h1.cell 0
          simp [tyC] at c
          simp [c, go_sem]
          done
         go_big_quiet_on)
      | (refine ⟨.int .i64 super, ?_, ?_⟩
         ·intro w1 h1 h2
          have c := h1.cell 6
          simp [tyC] at c
          simp [c, go_sem]
          done
         go_big_quiet_on)
      | (refine ⟨.slice op np cp, ?_, ?_⟩
         ·intro w1 h1 h2
          have c := h1.cell 7
          simp [tyC] at c
          simp [c, go_sem]
          done
         go_big_quiet_on)
      | (refine ⟨.slice om nm cm, ?_, ?_⟩
         ·intro w1 h1 h2
          have c := h1.cell 8
          simp [tyC] at c
          simp [c, go_sem]
          done
         go_big_quiet_on)
      | (refine ⟨.slice oo no co, ?_, ?_⟩
         ·intro w1 h1 h2
          have c := h1.cell 9
          simp [tyC] at c
          simp [c, go_sem]
          done
         go_big_quiet_on)))
   refine wpQuiet_nil ?_
   rintro w1 ⟨h1, h2⟩
   go_wp2
   go_ret
   exact ⟨ret_bool (by rw [HB.out]), h2⟩
  ·go_enter Tryz.func93, Tryz.ntmps93
   go_wp2_with fail
   refine wp_region_quiet (C := fun w' => Blk w' w.heap.size (tyC ⟨kind, low, high, false, brand, opq, super, parts, meths, overs⟩ (.slice op np cp) (.slice om nm cm) (.slice oo no co)) 62 ∧ Below w.heap.size w w') (by kernel_rfl) (by kernel_rfl) ?_ ?_
   ·exact ⟨Blk.new w (tyC ⟨kind, low, high, false, brand, opq, super, parts, meths, overs⟩ (.slice op np cp) (.slice om nm cm) (.slice oo no co)) 62, below_drewN' ((Below.refl w.heap.size w).alloc (Nat.le_refl _) _) 1⟩
   simp only []
   repeat (first
    | go_big_quiet_skip
    | (go_big_quiet_want; go_big_quiet_op; first
      | go_big_quiet_on
      | (refine ⟨_, fun _ _ _ => rfl, ?_⟩; go_big_quiet_on)
      | (refine ⟨tyVal ⟨kind, low, high, false, brand, opq, super, parts, meths, overs⟩ (.slice op np cp) (.slice om nm cm) (.slice oo no co), ?_, ?_⟩
         ·intro w1 h1 h2
          have c0 := h1.cell 0
          have c1 := h1.cell 1
          have c2 := h1.cell 2
          have c3 := h1.cell 3
          have c4 := h1.cell 4
          have c5 := h1.cell 5
          have c6 := h1.cell 6
          have c7 := h1.cell 7
          have c8 := h1.cell 8
          have c9 := h1.cell 9
          simp [tyC] at c0 c1 c2 c3 c4 c5 c6 c7 c8 c9
          simp [c0, c1, c2, c3, c4, c5, c6, c7, c8, c9, tyVal, go_sem]
          done
         go_big_quiet_on)
      | (refine ⟨.agg #[.int .u8 kind, .int .i64 low, .int .i64 high, .bool false, .string brand, .string opq], ?_, ?_⟩
         ·intro w1 h1 h2
          refine (unhide HP w1).mono ?_
          rintro e w2 ⟨rfl, hb⟩
          exact ⟨rfl, h1.below hb h1.lt, h2.trans (hb.mono h2.size)⟩
         go_big_quiet_on)
      | (refine ⟨.int .u8 kind, ?_, ?_⟩
         ·intro w1 h1 h2
          have c := h1.cell 0
          simp [tyC] at c
          simp [c, go_sem]
          done
         go_big_quiet_on)
      | (refine ⟨.int .i64 super, ?_, ?_⟩
         ·intro w1 h1 h2
          have c := h1.cell 6
          simp [tyC] at c
          simp [c, go_sem]
          done
         go_big_quiet_on)
      | (refine ⟨.slice op np cp, ?_, ?_⟩
         ·intro w1 h1 h2
          have c := h1.cell 7
          simp [tyC] at c
          simp [c, go_sem]
          done
         go_big_quiet_on)
      | (refine ⟨.slice om nm cm, ?_, ?_⟩
         ·intro w1 h1 h2
          have c := h1.cell 8
          simp [tyC] at c
          simp [c, go_sem]
          done
         go_big_quiet_on)
      | (refine ⟨.slice oo no co, ?_, ?_⟩
         ·intro w1 h1 h2
          have c := h1.cell 9
          simp [tyC] at c
          simp [c, go_sem]
          done
         go_big_quiet_on)))
   refine wpQuiet_nil ?_
   rintro w1 ⟨h1, h2⟩
   go_wp2
   go_ret
   exact ⟨ret_bool (by rw [HB.out, hxx]; rw [Bool.eq_iff_iff]; simp; omega), h2⟩
end Go.Proofs.YteaokkaidcbdlaaGreatDoor

namespace Go.Proofs.YteaokkaidcbdlaaGreatDoor
open Go Go.RowKit Go.Shelf
set_option maxRecDepth 100000 in
set_option maxHeartbeats 8000000 in
theorem newTable_any (w : World) : Calls Tryz.prog 91 #[] w fun e w' => e = .returned (.agg tabV) ∧ Below w.heap.size w w' := by
 go_enter Tryz.func91, Tryz.ntmps91
 go_wp2
 refine bodyPost_ret (v := .agg tabV) ?_ rfl ⟨rfl, (Below.refl _ _).alloc (Nat.le_refl _) _⟩
 simp [results, Tryz.results91, go_sem, tabV]
end Go.Proofs.YteaokkaidcbdlaaGreatDoor

