/- Part 6 of 51: the texts Me, Bt, one behind the other. -/
import Derived.Test.YteaokkaidcbdlaaGreatDoorQ5
import Derived.Tactics
import Derived.Tactics2
import Derived.WalkKit
import Derived.LoopTactic
import Derived.Outline
import Derived.Lib.Hide
import Derived.Handy
import Derived.KernelRfl
import Derived.Deep.LoopGhost
import Derived.CallsIn
import Derived.Deep.QuietTactic
import Derived.BigQuiet
import Derived.Deep.Draws
import Derived.WalkSpells
import Derived.Lib.Walk
import Derived.Lib.Strings
import Derived.Maps.OwnOps
import Derived.Maps.OwnSet
import Derived.Deep.RegionWith
import Derived.StillTailTactics
import Derived.WalkMore
import Derived.RangeFuncNested
import Derived.RangeFuncBound
import Derived.RangeFuncCalls
import Derived.RangeFuncLeaves
import Derived.RangeFuncBox
import Derived.Shelf.Abstract
import Derived.OwnWalkIn
import Derived.TacticsInMore
import Derived.LoopNIn
import Derived.LoopIn
import Derived.RecoverIn
import Derived.Maps.AppendAt
import Derived.RegionTactic
import Derived.ChangeAlike
import Derived.OwnWalk
import Derived.Deep.AppendLies
import Derived.Deep.DeepCutAuto
import Derived.Deep.RegionLaw
import Derived.Deep.RegionHeld3
/- The checker's step on methods. -/
namespace Go.Proofs.YteaokkaidcbdlaaGreatDoor
open Go Go.RowKit Go.Shelf
set_option maxRecDepth 100000 in
set_option maxHeartbeats 4000000 in
theorem methods_any {W0 W : World} {o : Option Addr} {n cap : Nat} {bc bt : Nat} {f : Bool} {t : TyD} {vp vm vo : Value} (hl : TyL W0 vp vm vo t)
    (hz : ∀ p ∈ t.meths, p.name.size ≤ maxLen ∧ p.proc.size ≤ maxLen ∧ ∀ r ∈ p.raises, r.size ≤ maxLen) (h : Own2 W0 W (.slice o n cap) bc bt f (tyC t vp vm vo)) :
    Calls Tryz.prog 266 #[.pointer (some ⟨bc, 0, none⟩), .pointer (some ⟨bt, 0, none⟩)] W fun e w' => e = .returned (.tuple #[]) ∧
      Own2 W0 w' (.slice o n cap) bc bt (f && methsB n t) (tyC t vp (.slice none 0 0) vo) := by
  have hP0 := hl.meths
  obtain ⟨op, cp, rfl⟩ := hP0.form
  obtain ⟨_, hm, hlc, hat⟩ := hP0.at
  have t8 : W.cell? ⟨bt, 8, none⟩ = some (.slice op t.meths.length cp) := h.t.cell 8
  have hlm : t.meths.length ≤ 9223372036854775807 := by unfold maxLen at hm; omega
  have HNM := hide (namedM_any _ t.meths W0 hP0 (fun p hp => (hz p hp).1))
  obtain ⟨N, hN⟩ : ∃ N, t.meths.length = N := ⟨_, rfl⟩
  have HB := Lib.hid (show methsB n t = (namedB (t.meths.map (·.name)) && t.meths.all (methB n)) from rfl)
  rw [hN] at t8 HNM hlm h
  clear hl hP0 hm hlc
  generalize namedB (t.meths.map (·.name)) = nb at HB HNM
  have HN := Lib.hid hN
  clear hN
  go_enter Tryz.func266, Tryz.ntmps266
  go_wp2_with (first | (go_at_call 275; refine (unhide HNM _ h.bel).mono ?_; rintro e w2 ⟨rfl, hb2⟩; have h2 := h.below hb2; clear h t8 hb2) | (go_at_call 271; refine (need_own h2 _).mono ?_; clear h2; rintro e w3 ⟨rfl, h3⟩; have c8 : w3.cell? ⟨bt, 8, none⟩ = some (.slice op N cp) := h3.t.cell 8))
  go_loopw [5, 18] (fun u i wr => ∃ k : Nat, k ≤ N ∧ i = .int .i64 k ∧ Own2 W0 wr (.slice o n cap) bc bt ((f && nb) && (t.meths.take k).all (methB n)) (tyC t vp (.slice op N cp) vo)) (fun _ i _ => N - (intOf i).toNat)
  case atStart => exact ⟨0, Nat.zero_le _, rfl, by simpa using h3⟩
  case round =>
    obtain ⟨k, hk, rfl, h4⟩ := hrel
    by_cases hlt : k < N
    · have hltp : k < t.meths.length := by rw [HN.out]; exact hlt
      obtain ⟨b, off, rfl, va, vr, hv, e0, e1, e2, e3, e4⟩ := hat k t.meths[k] (List.getElem?_eq_getElem hltp)
      have d0 : wr.cell? ⟨b, off + k * 5, none⟩ = some (.string t.meths[k].name) := Holds.below h4.bel _ _ e0
      have d1 : wr.cell? ⟨b, off + k * 5 + 1, none⟩ = some va := Holds.below h4.bel _ _ e1
      have d2 : wr.cell? ⟨b, off + k * 5 + 2, none⟩ = some (.int .i64 t.meths[k].result) := Holds.below h4.bel _ _ e2
      have d3 : wr.cell? ⟨b, off + k * 5 + 3, none⟩ = some vr := Holds.below h4.bel _ _ e3
      have d4 : wr.cell? ⟨b, off + k * 5 + 4, none⟩ = some (.string t.meths[k].proc) := Holds.below h4.bel _ _ e4
      have HA := Lib.hid (all_take (methB n) t.meths k hltp)
      have hlt' : (k : Int) < N := by omega
      obtain ⟨_, hs1, hs2⟩ := hz t.meths[k] (List.getElem_mem hltp)
      have HM := Lib.hid (show methB n t.meths[k] = (sigB n t.meths[k] && ((bs t.meths[k].proc).isEmpty || symB (bs t.meths[k].proc))) from rfl)
      rw [HM.out] at HA
      have hE : t.meths[k].proc.toList.isEmpty = (bs t.meths[k].proc).isEmpty := by rw [toList_bs]
      have HS := hide (fun (W : World) (mb : Nat) (hmb : mb < W.heap.size) (hmc : mb ≠ bc) (f : Bool) (cs : List Value) h => @sig_any W0 W o n cap bc bt mb hmb hmc f cs t.meths[k] va vr hv hs2 h)
      obtain ⟨oa, ca, rfl⟩ := hv.args.form
      obtain ⟨orr, cr, rfl⟩ := hv.raises.form
      have h5 := h4.alloc (.cells #[.string t.meths[k].name, .slice oa t.meths[k].args.length ca, .int .i64 t.meths[k].result, .slice orr t.meths[k].raises.length cr, .string t.meths[k].proc] 74)
      have hbk := Blk.new wr [.string t.meths[k].name, .slice oa t.meths[k].args.length ca, .int .i64 t.meths[k].result, .slice orr t.meths[k].raises.length cr, .string t.meths[k].proc] 74
      have hlb : wr.heap.size < (wr.alloc (.cells #[.string t.meths[k].name, .slice oa t.meths[k].args.length ca, .int .i64 t.meths[k].result, .slice orr t.meths[k].raises.length cr, .string t.meths[k].proc] 74)).heap.size := by simp
      have hnc : wr.heap.size ≠ bc := Nat.ne_of_gt h4.c.lt
      clear hat e0 e1 e2 e3 e4 hz HM hv h4
      generalize sigB n t.meths[k] = sg at HA HS
      have HSY := hide (fun w => isSymbol_any t.meths[k].proc hs1 w)
      generalize symB (bs t.meths[k].proc) = sy at *
      cases hem : (bs t.meths[k].proc).isEmpty with
      | true =>
        rw [hem] at hE HA
        go_wp2_with (first | (go_at_call 277; refine (unhide HS _ _ hlb hnc _ _ h5).mono ?_; rintro e w5 ⟨rfl, h6, hx6⟩; have hb6 : Blk w5 wr.heap.size [.string t.meths[k].name, .slice oa t.meths[k].args.length ca, .int .i64 t.meths[k].result, .slice orr t.meths[k].raises.length cr, .string t.meths[k].proc] 74 := hx6.trans hbk; have m4 : w5.cell? ⟨wr.heap.size, 4, none⟩ = some (.string t.meths[k].proc) := hb6.cell 4) | (go_at_call 21; refine (isSymbol_any _ hs1 _).mono ?_; rintro e w6 ⟨rfl, nq, rfl⟩) | (go_at_call 271; refine (need_own h6 _).mono ?_; rintro e w6 ⟨rfl, h7⟩))
        go_roundw
        case rel => exact ⟨k + 1, by omega, by go_num, by rw [HA.out]; simp only [Bool.true_or, Bool.and_true, ← Bool.and_assoc]; simpa only [Bool.and_true] using h7⟩
        case measure => simp [intOf]; omega
      | false =>
        rw [hem] at hE HA
        go_wp2_with (first | (go_at_call 277; refine (unhide HS _ _ hlb hnc _ _ h5).mono ?_; rintro e w5 ⟨rfl, h6, hx6⟩; have hb6 : Blk w5 wr.heap.size [.string t.meths[k].name, .slice oa t.meths[k].args.length ca, .int .i64 t.meths[k].result, .slice orr t.meths[k].raises.length cr, .string t.meths[k].proc] 74 := hx6.trans hbk; have m4 : w5.cell? ⟨wr.heap.size, 4, none⟩ = some (.string t.meths[k].proc) := hb6.cell 4) | (go_at_call 21; refine (unhide HSY _).mono ?_; rintro e w6 ⟨rfl, nq, rfl⟩) | (go_at_call 271; refine (need_own (h6.drewN nq) _).mono ?_; rintro e w6 ⟨rfl, h7⟩))
        go_roundw
        case rel => exact ⟨k + 1, by omega, by go_num, by rw [HA.out]; simp only [Bool.false_or, ← Bool.and_assoc]; exact h7⟩
        case measure => simp [intOf]; omega
    · obtain rfl : k = N := by omega
      have HA := Lib.hid (show (t.meths.take k).all (methB n) = t.meths.all (methB n) by rw [List.take_of_length_le (by rw [HN.out]; exact Nat.le_refl _)])
      rw [HA.out] at h4
      have c8 : wr.cell? ⟨bt, 8, none⟩ = some (.slice op k cp) := h4.t.cell 8
      have z8 := h4.t.frozen 8
      clear hat
      go_wp2
      go_end0
      exact ⟨rfl, by rw [HB.out, ← Bool.and_assoc]; exact h4.setT 8 (.slice none 0 0)⟩
end Go.Proofs.YteaokkaidcbdlaaGreatDoor
/- What a bare type is: isBare, for every type. -/
namespace Go.Proofs.YteaokkaidcbdlaaGreatDoor
open Go Go.RowKit Go.Shelf
def tyVal (t : TyD) (vp vm vo : Value) : Value := .agg #[.int .u8 t.kind, .int .i64 t.low, .int .i64 t.high, .bool t.branded, .string t.brand, .string t.opq, .int .i64 t.super, vp, vm, vo]
def plainV (t : TyD) : Value := .agg #[.int .u8 t.kind, .int .i64 t.low, .int .i64 t.high, .bool t.branded, .string t.brand, .string t.opq]
set_option maxHeartbeats 4000000 in
theorem plainOf_any (t : TyD) (vp vm vo : Value) (w : World) : Calls Tryz.prog 153 #[tyVal t vp vm vo] w fun e w' => e = .returned (plainV t) ∧ Below w.heap.size w w' := by
  unfold tyVal plainV
  go_enter Tryz.func153, Tryz.ntmps153
  go_wp2
  refine bodyPost_ret (v := plainV t) ?_ rfl ⟨rfl, ((Below.refl _ _).alloc (Nat.le_refl _) _).alloc (by simp) _⟩
  simp [results, Tryz.results153, go_sem, plainV]
def tabV : Array Value := #[.nilFunc, .func (.func 148) #[] #[], .func (.func 148) #[] #[], .func (.methodOf 189 "trestle/types.bounds") #[] #[], .func (.func 148) #[] #[], .func (.func 148) #[] #[], .func (.func 148) #[] #[], .func (.func 148) #[] #[], .func (.func 148) #[] #[],
  .func (.func 149) #[] #[], .func (.func 150) #[] #[], .func (.func 149) #[] #[], .func (.func 151) #[] #[], .func (.func 152) #[] #[]]
theorem tab_info : (Tryz.prog.info? 120).map (·.size) = some tabV.size := by kernel_rfl
def bareB (t : TyD) (n : Nat) : Bool := (((decide (t.low = 0) && decide (t.high = 0)) && (!t.branded && ((bs t.brand).isEmpty && (bs t.opq).isEmpty))) && decide (t.super = 0)) && decide (n = 0)
set_option maxRecDepth 100000 in
set_option maxHeartbeats 16000000 in
theorem isBare_any (t : TyD) (op om oo : Option Addr) (np nm no cp cm co : Nat) (hs : np + nm + no ≤ 1000000) (w : World) :
    Calls Tryz.prog 93 #[tyVal t (.slice op np cp) (.slice om nm cm) (.slice oo no co)] w fun e w' => e = .returned (.bool (bareB t (np + nm + no))) ∧ Below w.heap.size w w' := by
  obtain ⟨kind, low, high, branded, brand, opq, super, parts, meths, overs⟩ := t
  have HP := hide (plainOf_any ⟨kind, low, high, branded, brand, opq, super, parts, meths, overs⟩ (.slice op np cp) (.slice om nm cm) (.slice oo no co))
  have hU : tyVal ⟨kind, low, high, branded, brand, opq, super, parts, meths, overs⟩ (.slice op np cp) (.slice om nm cm) (.slice oo no co) = .agg #[.int .u8 kind, .int .i64 low, .int .i64 high, .bool branded, .string brand, .string opq, .int .i64 super, .slice op np cp, .slice om nm cm, .slice oo no co] := rfl
  have hbE : brand.toList.isEmpty = (bs brand).isEmpty := by rw [toList_bs]
  have hoE : opq.toList.isEmpty = (bs opq).isEmpty := by rw [toList_bs]
  obtain ⟨x, HB, hx⟩ : ∃ x, Hid (bareB ⟨kind, low, high, branded, brand, opq, super, parts, meths, overs⟩ (np + nm + no) = x) ∧ ((x = false ∧ (low == 0) = false) ∨ (x = false ∧ (low == 0) = true ∧ (high == 0) = false) ∨ (x = false ∧ (low == 0) = true ∧ (high == 0) = true ∧ branded = true) ∨
      (x = false ∧ (low == 0) = true ∧ (high == 0) = true ∧ branded = false ∧ brand.toList.isEmpty = false) ∨ (x = false ∧ (low == 0) = true ∧ (high == 0) = true ∧ branded = false ∧ brand.toList.isEmpty = true ∧ opq.toList.isEmpty = false) ∨
      (x = false ∧ (low == 0) = true ∧ (high == 0) = true ∧ branded = false ∧ brand.toList.isEmpty = true ∧ opq.toList.isEmpty = true ∧ (super == 0) = false) ∨
      (x = decide (np + nm + no = 0) ∧ (low == 0) = true ∧ (high == 0) = true ∧ branded = false ∧ brand.toList.isEmpty = true ∧ opq.toList.isEmpty = true ∧ (super == 0) = true)) := by
    refine ⟨_, Lib.hid rfl, ?_⟩
    unfold bareB
    rw [hbE, hoE]
    by_cases h1 : low = 0 <;> by_cases h2 : high = 0 <;> cases branded <;> cases (bs brand).isEmpty <;> cases (bs opq).isEmpty <;> by_cases h3 : super = 0 <;> simp [h1, h2, h3]
  clear hbE hoE
  rw [hU]
  clear hU
  rcases hx with ⟨rfl, a1⟩ | ⟨rfl, a1, a2⟩ | ⟨rfl, a1, a2, rfl⟩ | ⟨rfl, a1, a2, rfl, a4⟩ | ⟨rfl, a1, a2, rfl, a4, a5⟩ | ⟨rfl, a1, a2, rfl, a4, a5, a6⟩ | ⟨hxx, a1, a2, rfl, a4, a5, a6⟩
  · go_enter Tryz.func93, Tryz.ntmps93
    go_wp2_with fail
    refine wp_region_quiet (C := fun w' => Blk w' w.heap.size (tyC ⟨kind, low, high, branded, brand, opq, super, parts, meths, overs⟩ (.slice op np cp) (.slice om nm cm) (.slice oo no co)) 62 ∧ Below w.heap.size w w') (by kernel_rfl) (by kernel_rfl) ?_ ?_
    · exact ⟨Blk.new w (tyC ⟨kind, low, high, branded, brand, opq, super, parts, meths, overs⟩ (.slice op np cp) (.slice om nm cm) (.slice oo no co)) 62, below_drewN' ((Below.refl w.heap.size w).alloc (Nat.le_refl _) _) 1⟩
    simp only []
    repeat (first
      | go_big_quiet_skip
      | (go_big_quiet_want; go_big_quiet_op; first
        | go_big_quiet_on
        | (refine ⟨_, fun _ _ _ => rfl, ?_⟩; go_big_quiet_on)
        | (refine ⟨tyVal ⟨kind, low, high, branded, brand, opq, super, parts, meths, overs⟩ (.slice op np cp) (.slice om nm cm) (.slice oo no co), ?_, ?_⟩
           · intro w1 h1 h2
             have c0 := h1.cell 0
             have c1 := h1.cell 1
             have c2 := h1.cell 2
             have c3 := h1.cell 3
             have c4 := h1.cell 4
             have c5 := h1.cell 5
             have c6 := h1.cell 6
             have c7 := h1.cell 7
             have c8 := h1.cell 8
             have c9 := h1.cell 9
             simp [tyC] at c0 c1 c2 c3 c4 c5 c6 c7 c8 c9
             simp [c0, c1, c2, c3, c4, c5, c6, c7, c8, c9, tyVal, go_sem]
             done
           go_big_quiet_on)
        | (refine ⟨.agg #[.int .u8 kind, .int .i64 low, .int .i64 high, .bool branded, .string brand, .string opq], ?_, ?_⟩
           · intro w1 h1 h2
             refine (unhide HP w1).mono ?_
             rintro e w2 ⟨rfl, hb⟩
             exact ⟨rfl, h1.below hb h1.lt, h2.trans (hb.mono h2.size)⟩
           go_big_quiet_on)
        | (refine ⟨.int .u8 kind, ?_, ?_⟩
           · intro w1 h1 h2
             have c := h1.cell 0
             simp [tyC] at c
             simp [c, go_sem]
             done
           go_big_quiet_on)
        | (refine ⟨.int .i64 super, ?_, ?_⟩
           · intro w1 h1 h2
             have c := h1.cell 6
             simp [tyC] at c
             simp [c, go_sem]
             done
           go_big_quiet_on)
        | (refine ⟨.slice op np cp, ?_, ?_⟩
           · intro w1 h1 h2
             have c := h1.cell 7
             simp [tyC] at c
             simp [c, go_sem]
             done
           go_big_quiet_on)
        | (refine ⟨.slice om nm cm, ?_, ?_⟩
           · intro w1 h1 h2
             have c := h1.cell 8
             simp [tyC] at c
             simp [c, go_sem]
             done
           go_big_quiet_on)
        | (refine ⟨.slice oo no co, ?_, ?_⟩
           · intro w1 h1 h2
             have c := h1.cell 9
             simp [tyC] at c
             simp [c, go_sem]
             done
           go_big_quiet_on)))
    refine wpQuiet_nil ?_
    rintro w1 ⟨h1, h2⟩
    go_wp2
    go_ret
    exact ⟨ret_bool (by rw [HB.out]), h2⟩
  · go_enter Tryz.func93, Tryz.ntmps93
    go_wp2_with fail
    refine wp_region_quiet (C := fun w' => Blk w' w.heap.size (tyC ⟨kind, low, high, branded, brand, opq, super, parts, meths, overs⟩ (.slice op np cp) (.slice om nm cm) (.slice oo no co)) 62 ∧ Below w.heap.size w w') (by kernel_rfl) (by kernel_rfl) ?_ ?_
    · exact ⟨Blk.new w (tyC ⟨kind, low, high, branded, brand, opq, super, parts, meths, overs⟩ (.slice op np cp) (.slice om nm cm) (.slice oo no co)) 62, below_drewN' ((Below.refl w.heap.size w).alloc (Nat.le_refl _) _) 1⟩
    simp only []
    repeat (first
      | go_big_quiet_skip
      | (go_big_quiet_want; go_big_quiet_op; first
        | go_big_quiet_on
        | (refine ⟨_, fun _ _ _ => rfl, ?_⟩; go_big_quiet_on)
        | (refine ⟨tyVal ⟨kind, low, high, branded, brand, opq, super, parts, meths, overs⟩ (.slice op np cp) (.slice om nm cm) (.slice oo no co), ?_, ?_⟩
           · intro w1 h1 h2
             have c0 := h1.cell 0
             have c1 := h1.cell 1
             have c2 := h1.cell 2
             have c3 := h1.cell 3
             have c4 := h1.cell 4
             have c5 := h1.cell 5
             have c6 := h1.cell 6
             have c7 := h1.cell 7
             have c8 := h1.cell 8
             have c9 := h1.cell 9
             simp [tyC] at c0 c1 c2 c3 c4 c5 c6 c7 c8 c9
             simp [c0, c1, c2, c3, c4, c5, c6, c7, c8, c9, tyVal, go_sem]
             done
           go_big_quiet_on)
        | (refine ⟨.agg #[.int .u8 kind, .int .i64 low, .int .i64 high, .bool branded, .string brand, .string opq], ?_, ?_⟩
           · intro w1 h1 h2
             refine (unhide HP w1).mono ?_
             rintro e w2 ⟨rfl, hb⟩
             exact ⟨rfl, h1.below hb h1.lt, h2.trans (hb.mono h2.size)⟩
           go_big_quiet_on)
        | (refine ⟨.int .u8 kind, ?_, ?_⟩
           · intro w1 h1 h2
             have c := h1.cell 0
             simp [tyC] at c
             simp [c, go_sem]
             done
           go_big_quiet_on)
        | (refine ⟨.int .i64 super, ?_, ?_⟩
           · intro w1 h1 h2
             have c := h1.cell 6
             simp [tyC] at c
             simp [c, go_sem]
             done
           go_big_quiet_on)
        | (refine ⟨.slice op np cp, ?_, ?_⟩
           · intro w1 h1 h2
             have c := h1.cell 7
             simp [tyC] at c
             simp [c, go_sem]
             done
           go_big_quiet_on)
        | (refine ⟨.slice om nm cm, ?_, ?_⟩
           · intro w1 h1 h2
             have c := h1.cell 8
             simp [tyC] at c
             simp [c, go_sem]
             done
           go_big_quiet_on)
        | (refine ⟨.slice oo no co, ?_, ?_⟩
           · intro w1 h1 h2
             have c := h1.cell 9
             simp [tyC] at c
             simp [c, go_sem]
             done
           go_big_quiet_on)))
    refine wpQuiet_nil ?_
    rintro w1 ⟨h1, h2⟩
    go_wp2
    go_ret
    exact ⟨ret_bool (by rw [HB.out]), h2⟩
  · go_enter Tryz.func93, Tryz.ntmps93
    go_wp2_with fail
    refine wp_region_quiet (C := fun w' => Blk w' w.heap.size (tyC ⟨kind, low, high, true, brand, opq, super, parts, meths, overs⟩ (.slice op np cp) (.slice om nm cm) (.slice oo no co)) 62 ∧ Below w.heap.size w w') (by kernel_rfl) (by kernel_rfl) ?_ ?_
    · exact ⟨Blk.new w (tyC ⟨kind, low, high, true, brand, opq, super, parts, meths, overs⟩ (.slice op np cp) (.slice om nm cm) (.slice oo no co)) 62, below_drewN' ((Below.refl w.heap.size w).alloc (Nat.le_refl _) _) 1⟩
    simp only []
    repeat (first
      | go_big_quiet_skip
      | (go_big_quiet_want; go_big_quiet_op; first
        | go_big_quiet_on
        | (refine ⟨_, fun _ _ _ => rfl, ?_⟩; go_big_quiet_on)
        | (refine ⟨tyVal ⟨kind, low, high, true, brand, opq, super, parts, meths, overs⟩ (.slice op np cp) (.slice om nm cm) (.slice oo no co), ?_, ?_⟩
           · intro w1 h1 h2
             have c0 := h1.cell 0
             have c1 := h1.cell 1
             have c2 := h1.cell 2
             have c3 := h1.cell 3
             have c4 := h1.cell 4
             have c5 := h1.cell 5
             have c6 := h1.cell 6
             have c7 := h1.cell 7
             have c8 := h1.cell 8
             have c9 := h1.cell 9
             simp [tyC] at c0 c1 c2 c3 c4 c5 c6 c7 c8 c9
             simp [c0, c1, c2, c3, c4, c5, c6, c7, c8, c9, tyVal, go_sem]
             done
           go_big_quiet_on)
        | (refine ⟨.agg #[.int .u8 kind, .int .i64 low, .int .i64 high, .bool true, .string brand, .string opq], ?_, ?_⟩
           · intro w1 h1 h2
             refine (unhide HP w1).mono ?_
             rintro e w2 ⟨rfl, hb⟩
             exact ⟨rfl, h1.below hb h1.lt, h2.trans (hb.mono h2.size)⟩
           go_big_quiet_on)
        | (refine ⟨.int .u8 kind, ?_, ?_⟩
           · intro w1 h1 h2
             have c := h1.cell 0
             simp [tyC] at c
             simp [c, go_sem]
             done
           go_big_quiet_on)
        | (refine ⟨.int .i64 super, ?_, ?_⟩
           · intro w1 h1 h2
             have c := h1.cell 6
             simp [tyC] at c
             simp [c, go_sem]
             done
           go_big_quiet_on)
        | (refine ⟨.slice op np cp, ?_, ?_⟩
           · intro w1 h1 h2
             have c := h1.cell 7
             simp [tyC] at c
             simp [c, go_sem]
             done
           go_big_quiet_on)
        | (refine ⟨.slice om nm cm, ?_, ?_⟩
           · intro w1 h1 h2
             have c := h1.cell 8
             simp [tyC] at c
             simp [c, go_sem]
             done
           go_big_quiet_on)
        | (refine ⟨.slice oo no co, ?_, ?_⟩
           · intro w1 h1 h2
             have c := h1.cell 9
             simp [tyC] at c
             simp [c, go_sem]
             done
           go_big_quiet_on)))
    refine wpQuiet_nil ?_
    rintro w1 ⟨h1, h2⟩
    go_wp2
    go_ret
    exact ⟨ret_bool (by rw [HB.out]), h2⟩
  · go_enter Tryz.func93, Tryz.ntmps93
    go_wp2_with fail
    refine wp_region_quiet (C := fun w' => Blk w' w.heap.size (tyC ⟨kind, low, high, false, brand, opq, super, parts, meths, overs⟩ (.slice op np cp) (.slice om nm cm) (.slice oo no co)) 62 ∧ Below w.heap.size w w') (by kernel_rfl) (by kernel_rfl) ?_ ?_
    · exact ⟨Blk.new w (tyC ⟨kind, low, high, false, brand, opq, super, parts, meths, overs⟩ (.slice op np cp) (.slice om nm cm) (.slice oo no co)) 62, below_drewN' ((Below.refl w.heap.size w).alloc (Nat.le_refl _) _) 1⟩
    simp only []
    repeat (first
      | go_big_quiet_skip
      | (go_big_quiet_want; go_big_quiet_op; first
        | go_big_quiet_on
        | (refine ⟨_, fun _ _ _ => rfl, ?_⟩; go_big_quiet_on)
        | (refine ⟨tyVal ⟨kind, low, high, false, brand, opq, super, parts, meths, overs⟩ (.slice op np cp) (.slice om nm cm) (.slice oo no co), ?_, ?_⟩
           · intro w1 h1 h2
             have c0 := h1.cell 0
             have c1 := h1.cell 1
             have c2 := h1.cell 2
             have c3 := h1.cell 3
             have c4 := h1.cell 4
             have c5 := h1.cell 5
             have c6 := h1.cell 6
             have c7 := h1.cell 7
             have c8 := h1.cell 8
             have c9 := h1.cell 9
             simp [tyC] at c0 c1 c2 c3 c4 c5 c6 c7 c8 c9
             simp [c0, c1, c2, c3, c4, c5, c6, c7, c8, c9, tyVal, go_sem]
             done
           go_big_quiet_on)
        | (refine ⟨.agg #[.int .u8 kind, .int .i64 low, .int .i64 high, .bool false, .string brand, .string opq], ?_, ?_⟩
           · intro w1 h1 h2
             refine (unhide HP w1).mono ?_
             rintro e w2 ⟨rfl, hb⟩
             exact ⟨rfl, h1.below hb h1.lt, h2.trans (hb.mono h2.size)⟩
           go_big_quiet_on)
        | (refine ⟨.int .u8 kind, ?_, ?_⟩
           · intro w1 h1 h2
             have c := h1.cell 0
             simp [tyC] at c
             simp [c, go_sem]
             done
           go_big_quiet_on)
        | (refine ⟨.int .i64 super, ?_, ?_⟩
           · intro w1 h1 h2
             have c := h1.cell 6
             simp [tyC] at c
             simp [c, go_sem]
             done
           go_big_quiet_on)
        | (refine ⟨.slice op np cp, ?_, ?_⟩
           · intro w1 h1 h2
             have c := h1.cell 7
             simp [tyC] at c
             simp [c, go_sem]
             done
           go_big_quiet_on)
        | (refine ⟨.slice om nm cm, ?_, ?_⟩
           · intro w1 h1 h2
             have c := h1.cell 8
             simp [tyC] at c
             simp [c, go_sem]
             done
           go_big_quiet_on)
        | (refine ⟨.slice oo no co, ?_, ?_⟩
           · intro w1 h1 h2
             have c := h1.cell 9
             simp [tyC] at c
             simp [c, go_sem]
             done
           go_big_quiet_on)))
    refine wpQuiet_nil ?_
    rintro w1 ⟨h1, h2⟩
    go_wp2
    go_ret
    exact ⟨ret_bool (by rw [HB.out]), h2⟩
  · go_enter Tryz.func93, Tryz.ntmps93
    go_wp2_with fail
    refine wp_region_quiet (C := fun w' => Blk w' w.heap.size (tyC ⟨kind, low, high, false, brand, opq, super, parts, meths, overs⟩ (.slice op np cp) (.slice om nm cm) (.slice oo no co)) 62 ∧ Below w.heap.size w w') (by kernel_rfl) (by kernel_rfl) ?_ ?_
    · exact ⟨Blk.new w (tyC ⟨kind, low, high, false, brand, opq, super, parts, meths, overs⟩ (.slice op np cp) (.slice om nm cm) (.slice oo no co)) 62, below_drewN' ((Below.refl w.heap.size w).alloc (Nat.le_refl _) _) 1⟩
    simp only []
    repeat (first
      | go_big_quiet_skip
      | (go_big_quiet_want; go_big_quiet_op; first
        | go_big_quiet_on
        | (refine ⟨_, fun _ _ _ => rfl, ?_⟩; go_big_quiet_on)
        | (refine ⟨tyVal ⟨kind, low, high, false, brand, opq, super, parts, meths, overs⟩ (.slice op np cp) (.slice om nm cm) (.slice oo no co), ?_, ?_⟩
           · intro w1 h1 h2
             have c0 := h1.cell 0
             have c1 := h1.cell 1
             have c2 := h1.cell 2
             have c3 := h1.cell 3
             have c4 := h1.cell 4
             have c5 := h1.cell 5
             have c6 := h1.cell 6
             have c7 := h1.cell 7
             have c8 := h1.cell 8
             have c9 := h1.cell 9
             simp [tyC] at c0 c1 c2 c3 c4 c5 c6 c7 c8 c9
             simp [c0, c1, c2, c3, c4, c5, c6, c7, c8, c9, tyVal, go_sem]
             done
           go_big_quiet_on)
        | (refine ⟨.agg #[.int .u8 kind, .int .i64 low, .int .i64 high, .bool false, .string brand, .string opq], ?_, ?_⟩
           · intro w1 h1 h2
             refine (unhide HP w1).mono ?_
             rintro e w2 ⟨rfl, hb⟩
             exact ⟨rfl, h1.below hb h1.lt, h2.trans (hb.mono h2.size)⟩
           go_big_quiet_on)
        | (refine ⟨.int .u8 kind, ?_, ?_⟩
           · intro w1 h1 h2
             have c := h1.cell 0
             simp [tyC] at c
             simp [c, go_sem]
             done
           go_big_quiet_on)
        | (refine ⟨.int .i64 super, ?_, ?_⟩
           · intro w1 h1 h2
             have c := h1.cell 6
             simp [tyC] at c
             simp [c, go_sem]
             done
           go_big_quiet_on)
        | (refine ⟨.slice op np cp, ?_, ?_⟩
           · intro w1 h1 h2
             have c := h1.cell 7
             simp [tyC] at c
             simp [c, go_sem]
             done
           go_big_quiet_on)
        | (refine ⟨.slice om nm cm, ?_, ?_⟩
           · intro w1 h1 h2
             have c := h1.cell 8
             simp [tyC] at c
             simp [c, go_sem]
             done
           go_big_quiet_on)
        | (refine ⟨.slice oo no co, ?_, ?_⟩
           · intro w1 h1 h2
             have c := h1.cell 9
             simp [tyC] at c
             simp [c, go_sem]
             done
           go_big_quiet_on)))
    refine wpQuiet_nil ?_
    rintro w1 ⟨h1, h2⟩
    go_wp2
    go_ret
    exact ⟨ret_bool (by rw [HB.out]), h2⟩
  · go_enter Tryz.func93, Tryz.ntmps93
    go_wp2_with fail
    refine wp_region_quiet (C := fun w' => Blk w' w.heap.size (tyC ⟨kind, low, high, false, brand, opq, super, parts, meths, overs⟩ (.slice op np cp) (.slice om nm cm) (.slice oo no co)) 62 ∧ Below w.heap.size w w') (by kernel_rfl) (by kernel_rfl) ?_ ?_
    · exact ⟨Blk.new w (tyC ⟨kind, low, high, false, brand, opq, super, parts, meths, overs⟩ (.slice op np cp) (.slice om nm cm) (.slice oo no co)) 62, below_drewN' ((Below.refl w.heap.size w).alloc (Nat.le_refl _) _) 1⟩
    simp only []
    repeat (first
      | go_big_quiet_skip
      | (go_big_quiet_want; go_big_quiet_op; first
        | go_big_quiet_on
        | (refine ⟨_, fun _ _ _ => rfl, ?_⟩; go_big_quiet_on)
        | (refine ⟨tyVal ⟨kind, low, high, false, brand, opq, super, parts, meths, overs⟩ (.slice op np cp) (.slice om nm cm) (.slice oo no co), ?_, ?_⟩
           · intro w1 h1 h2
             have c0 := h1.cell 0
             have c1 := h1.cell 1
             have c2 := h1.cell 2
             have c3 := h1.cell 3
             have c4 := h1.cell 4
             have c5 := h1.cell 5
             have c6 := h1.cell 6
             have c7 := h1.cell 7
             have c8 := h1.cell 8
             have c9 := h1.cell 9
             simp [tyC] at c0 c1 c2 c3 c4 c5 c6 c7 c8 c9
             simp [c0, c1, c2, c3, c4, c5, c6, c7, c8, c9, tyVal, go_sem]
             done
           go_big_quiet_on)
        | (refine ⟨.agg #[.int .u8 kind, .int .i64 low, .int .i64 high, .bool false, .string brand, .string opq], ?_, ?_⟩
           · intro w1 h1 h2
             refine (unhide HP w1).mono ?_
             rintro e w2 ⟨rfl, hb⟩
             exact ⟨rfl, h1.below hb h1.lt, h2.trans (hb.mono h2.size)⟩
           go_big_quiet_on)
        | (refine ⟨.int .u8 kind, ?_, ?_⟩
           · intro w1 h1 h2
             have c := h1.cell 0
             simp [tyC] at c
             simp [c, go_sem]
             done
           go_big_quiet_on)
        | (refine ⟨.int .i64 super, ?_, ?_⟩
           · intro w1 h1 h2
             have c := h1.cell 6
             simp [tyC] at c
             simp [c, go_sem]
             done
           go_big_quiet_on)
        | (refine ⟨.slice op np cp, ?_, ?_⟩
           · intro w1 h1 h2
             have c := h1.cell 7
             simp [tyC] at c
             simp [c, go_sem]
             done
           go_big_quiet_on)
        | (refine ⟨.slice om nm cm, ?_, ?_⟩
           · intro w1 h1 h2
             have c := h1.cell 8
             simp [tyC] at c
             simp [c, go_sem]
             done
           go_big_quiet_on)
        | (refine ⟨.slice oo no co, ?_, ?_⟩
           · intro w1 h1 h2
             have c := h1.cell 9
             simp [tyC] at c
             simp [c, go_sem]
             done
           go_big_quiet_on)))
    refine wpQuiet_nil ?_
    rintro w1 ⟨h1, h2⟩
    go_wp2
    go_ret
    exact ⟨ret_bool (by rw [HB.out]), h2⟩
  · go_enter Tryz.func93, Tryz.ntmps93
    go_wp2_with fail
    refine wp_region_quiet (C := fun w' => Blk w' w.heap.size (tyC ⟨kind, low, high, false, brand, opq, super, parts, meths, overs⟩ (.slice op np cp) (.slice om nm cm) (.slice oo no co)) 62 ∧ Below w.heap.size w w') (by kernel_rfl) (by kernel_rfl) ?_ ?_
    · exact ⟨Blk.new w (tyC ⟨kind, low, high, false, brand, opq, super, parts, meths, overs⟩ (.slice op np cp) (.slice om nm cm) (.slice oo no co)) 62, below_drewN' ((Below.refl w.heap.size w).alloc (Nat.le_refl _) _) 1⟩
    simp only []
    repeat (first
      | go_big_quiet_skip
      | (go_big_quiet_want; go_big_quiet_op; first
        | go_big_quiet_on
        | (refine ⟨_, fun _ _ _ => rfl, ?_⟩; go_big_quiet_on)
        | (refine ⟨tyVal ⟨kind, low, high, false, brand, opq, super, parts, meths, overs⟩ (.slice op np cp) (.slice om nm cm) (.slice oo no co), ?_, ?_⟩
           · intro w1 h1 h2
             have c0 := h1.cell 0
             have c1 := h1.cell 1
             have c2 := h1.cell 2
             have c3 := h1.cell 3
             have c4 := h1.cell 4
             have c5 := h1.cell 5
             have c6 := h1.cell 6
             have c7 := h1.cell 7
             have c8 := h1.cell 8
             have c9 := h1.cell 9
             simp [tyC] at c0 c1 c2 c3 c4 c5 c6 c7 c8 c9
             simp [c0, c1, c2, c3, c4, c5, c6, c7, c8, c9, tyVal, go_sem]
             done
           go_big_quiet_on)
        | (refine ⟨.agg #[.int .u8 kind, .int .i64 low, .int .i64 high, .bool false, .string brand, .string opq], ?_, ?_⟩
           · intro w1 h1 h2
             refine (unhide HP w1).mono ?_
             rintro e w2 ⟨rfl, hb⟩
             exact ⟨rfl, h1.below hb h1.lt, h2.trans (hb.mono h2.size)⟩
           go_big_quiet_on)
        | (refine ⟨.int .u8 kind, ?_, ?_⟩
           · intro w1 h1 h2
             have c := h1.cell 0
             simp [tyC] at c
             simp [c, go_sem]
             done
           go_big_quiet_on)
        | (refine ⟨.int .i64 super, ?_, ?_⟩
           · intro w1 h1 h2
             have c := h1.cell 6
             simp [tyC] at c
             simp [c, go_sem]
             done
           go_big_quiet_on)
        | (refine ⟨.slice op np cp, ?_, ?_⟩
           · intro w1 h1 h2
             have c := h1.cell 7
             simp [tyC] at c
             simp [c, go_sem]
             done
           go_big_quiet_on)
        | (refine ⟨.slice om nm cm, ?_, ?_⟩
           · intro w1 h1 h2
             have c := h1.cell 8
             simp [tyC] at c
             simp [c, go_sem]
             done
           go_big_quiet_on)
        | (refine ⟨.slice oo no co, ?_, ?_⟩
           · intro w1 h1 h2
             have c := h1.cell 9
             simp [tyC] at c
             simp [c, go_sem]
             done
           go_big_quiet_on)))
    refine wpQuiet_nil ?_
    rintro w1 ⟨h1, h2⟩
    go_wp2
    go_ret
    exact ⟨ret_bool (by rw [HB.out, hxx]; rw [Bool.eq_iff_iff]; simp; omega), h2⟩
end Go.Proofs.YteaokkaidcbdlaaGreatDoor
