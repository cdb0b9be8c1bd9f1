/- Part 37 of 53: the texts Nb, Pk, Mg, Um, one behind the other. -/
import Derived.Test.YteaokkaidcbdlaaGreatDoorJ36
import Derived.Tactics
import Derived.Tactics2
import Derived.WalkKit
import Derived.LoopTactic
import Derived.Outline
import Derived.Lib.Hide
import Derived.Handy
import Derived.KernelRfl
import Derived.Deep.LoopGhost
import Derived.CallsIn
import Derived.Deep.QuietTactic
import Derived.BigQuiet
import Derived.Deep.Draws
import Derived.WalkSpells
import Derived.Lib.Walk
import Derived.Lib.Strings
import Derived.Maps.OwnOps
import Derived.Maps.OwnSet
import Derived.Deep.RegionWith
import Derived.StillTailTactics
import Derived.WalkMore
import Derived.RangeFuncNested
import Derived.RangeFuncBound
import Derived.RangeFuncCalls
import Derived.RangeFuncLeaves
import Derived.RangeFuncBox
import Derived.Shelf.Abstract
import Derived.OwnWalkIn
import Derived.TacticsInMore
import Derived.LoopNIn
import Derived.LoopIn
import Derived.RecoverIn
import Derived.Maps.AppendAt
import Derived.RegionTactic
import Derived.ChangeAlike
import Derived.OwnWalk
import Derived.Deep.AppendLies
import Derived.Deep.DeepCutAuto
import Derived.Deep.RegionLaw
import Derived.Deep.RegionHeld3
import Derived.Laws.EntriesVeiled
import Derived.Test.YteaokkaidcbdlaaGreatDoorJ20
import Derived.Test.YteaokkaidcbdlaaGreatDoorJ31
import Derived.Test.YteaokkaidcbdlaaGreatDoorJ21
import Derived.Test.YteaokkaidcbdlaaGreatDoorJ35
namespace Go.Proofs.YteaokkaidcbdlaaGreatDoor
open Go Go.RowKit Go.Shelf
attribute [local go_sem] Oper.semAt_some
set_option maxRecDepth 100000 in
set_option maxHeartbeats 16000000 in
theorem renumbered_any (t : TyD) (v1 v2 v3 : Value) (ff : Nat) (caps : Array Value) (tf : Int → Int) (W : World) (ht : TyL W v1 v2 v3 t) (hp : t.parts.length ≤ 1000) (hm : t.meths.length ≤ 1000) (ho : t.overs.length ≤ 1000) (hma : ∀ m ∈ t.meths, m.args.length ≤ 1000 ∧ m.raises.length ≤ 1000)
    (htf : ∀ W', Below W.heap.size W W' → ∀ x ∈ refsOf t, Calls Tryz.prog ff (#[.int .i64 x] ++ caps) W' fun e w' => e = .returned (.int .i64 (tf x)) ∧ w' = W') (hff : ∀ args w, (callFunc ff args).run Tryz.prog w = .ok (.enter ff args) w) :
    Calls Tryz.prog 77 #[tyVal t v1 v2 v3, .func (.func ff) #[] caps] W fun e w' => ∃ u1 u2 u3, e = .returned (tyVal (mapTy tf t) u1 u2 u3) ∧ Far W.heap.size w'.heap.size w' u1 u2 u3 (mapTy tf t) ∧ Below W.heap.size W w' := by
  refine (callsIn_wide (n := 2)).1 ?_
  refine callsIn_of_wp_marks Tryz.func77 rfl trivial ?_ rfl
  obtain ⟨o1, c1, rfl⟩ := ht.parts.form
  obtain ⟨o2, c2, rfl⟩ := ht.meths.form
  obtain ⟨o3, c3, rfl⟩ := ht.overs.form
  unfold tyVal
  simp only [Tryz.ntmps77, List.size_toArray, List.length_cons, List.length_nil, Nat.reduceAdd, Nat.reduceSub, Array.replicate_succ, Array.replicate_zero, List.push_toArray, List.append_toArray, List.nil_append, List.cons_append]
  have HTF := hide htf
  clear htf
  gi_wp2
  have hb0 : Below W.heap.size W (((W.alloc (.cells #[.int .u8 t.kind, .int .i64 t.low, .int .i64 t.high, .bool t.branded, .string t.brand, .string t.opq, .int .i64 t.super, .slice o1 t.parts.length c1, .slice o2 t.meths.length c2, .slice o3 t.overs.length c3] 62)).alloc (.cells #[.func (.func ff) #[] caps] 94)).alloc (.cells zeroTyC.toArray 62)) := (((Below.refl _ _).alloc (Nat.le_refl _) _).alloc (by simp) _).alloc (by simp; omega) _
  have bt0 : Blk (((W.alloc (.cells #[.int .u8 t.kind, .int .i64 t.low, .int .i64 t.high, .bool t.branded, .string t.brand, .string t.opq, .int .i64 t.super, .slice o1 t.parts.length c1, .slice o2 t.meths.length c2, .slice o3 t.overs.length c3] 62)).alloc (.cells #[.func (.func ff) #[] caps] 94)).alloc (.cells zeroTyC.toArray 62)) W.heap.size (tyC t (.slice o1 t.parts.length c1) (.slice o2 t.meths.length c2) (.slice o3 t.overs.length c3)) 62 := ((Blk.new W (tyC t (.slice o1 t.parts.length c1) (.slice o2 t.meths.length c2) (.slice o3 t.overs.length c3)) 62).alloc _).alloc _
  have bf0 : Boxed (((W.alloc (.cells #[.int .u8 t.kind, .int .i64 t.low, .int .i64 t.high, .bool t.branded, .string t.brand, .string t.opq, .int .i64 t.super, .slice o1 t.parts.length c1, .slice o2 t.meths.length c2, .slice o3 t.overs.length c3] 62)).alloc (.cells #[.func (.func ff) #[] caps] 94)).alloc (.cells zeroTyC.toArray 62)) (W.heap.size + 1) 94 (.func (.func ff) #[] caps) := by
    have := (Boxed.new (W.alloc (.cells #[.int .u8 t.kind, .int .i64 t.low, .int .i64 t.high, .bool t.branded, .string t.brand, .string t.opq, .int .i64 t.super, .slice o1 t.parts.length c1, .slice o2 t.meths.length c2, .slice o3 t.overs.length c3] 62)) 94 (.func (.func ff) #[] caps)).alloc (.cells zeroTyC.toArray 62)
    rwa [World.size_alloc] at this
  have br0 : Blk (((W.alloc (.cells #[.int .u8 t.kind, .int .i64 t.low, .int .i64 t.high, .bool t.branded, .string t.brand, .string t.opq, .int .i64 t.super, .slice o1 t.parts.length c1, .slice o2 t.meths.length c2, .slice o3 t.overs.length c3] 62)).alloc (.cells #[.func (.func ff) #[] caps] 94)).alloc (.cells zeroTyC.toArray 62)) (W.heap.size + 2) zeroTyC 62 := by
    have := Blk.new ((W.alloc (.cells #[.int .u8 t.kind, .int .i64 t.low, .int .i64 t.high, .bool t.branded, .string t.brand, .string t.opq, .int .i64 t.super, .slice o1 t.parts.length c1, .slice o2 t.meths.length c2, .slice o3 t.overs.length c3] 62)).alloc (.cells #[.func (.func ff) #[] caps] 94)) zeroTyC 62
    simpa using this
  have hs0 : W.heap.size + 3 ≤ ((((W.alloc (.cells #[.int .u8 t.kind, .int .i64 t.low, .int .i64 t.high, .bool t.branded, .string t.brand, .string t.opq, .int .i64 t.super, .slice o1 t.parts.length c1, .slice o2 t.meths.length c2, .slice o3 t.overs.length c3] 62)).alloc (.cells #[.func (.func ff) #[] caps] 94)).alloc (.cells zeroTyC.toArray 62))).heap.size := by simp
  change Fence.wide.fn 119 ∧ CallsIn Fence.wide 1 Tryz.prog 119 _ (((W.alloc (.cells #[.int .u8 t.kind, .int .i64 t.low, .int .i64 t.high, .bool t.branded, .string t.brand, .string t.opq, .int .i64 t.super, .slice o1 t.parts.length c1, .slice o2 t.meths.length c2, .slice o3 t.overs.length c3] 62)).alloc (.cells #[.func (.func ff) #[] caps] 94)).alloc (.cells zeroTyC.toArray 62)) _
  generalize (((W.alloc (.cells #[.int .u8 t.kind, .int .i64 t.low, .int .i64 t.high, .bool t.branded, .string t.brand, .string t.opq, .int .i64 t.super, .slice o1 t.parts.length c1, .slice o2 t.meths.length c2, .slice o3 t.overs.length c3] 62)).alloc (.cells #[.func (.func ff) #[] caps] 94)).alloc (.cells zeroTyC.toArray 62)) = W0 at hb0 bt0 bf0 br0 hs0 ⊢
  refine ⟨trivial, ?_⟩
  refine (callsIn_wide.2 (clone_parts _ t.parts _ (ht.parts.mono fun _ _ _ _ => PartAt.go (.below hb0)) (by omega))).mono ?_
  rintro e w1 ⟨vp, rfl, r1, hb1⟩
  obtain ⟨op, cp, rfl⟩ := row_form r1
  have bt1 := bt0.below hb1 bt0.lt
  have bf1 : Boxed w1 _ 94 _ := (hb1.block _ bf0.lt).trans bf0
  have br1 := br0.below hb1 br0.lt
  have hbw1 := hb0.trans (hb1.mono hb0.size)
  have c17 := bt1.cell 7
  have z17 := bt1.frozen 7
  have c19 := bt1.cell 9
  simp only [tyC, List.getElem?_cons_zero, List.getElem?_cons_succ] at c17 c19
  gi_wp2
  have bt2 := bt1.set 7 (.slice op t.parts.length cp)
  change Blk _ _ (tyC t (.slice op t.parts.length cp) (.slice o2 t.meths.length c2) (.slice o3 t.overs.length c3)) _ at bt2
  have bf2 := box_otherN bf1 (show W.heap.size + 1 ≠ W.heap.size by omega) 7 (.slice op t.parts.length cp)
  have br2 := br1.other 7 (.slice op t.parts.length cp) (show W.heap.size + 2 ≠ W.heap.size by omega)
  have r12 := row_setB r1 (show W.heap.size < W0.heap.size by omega) 7 (.slice op t.parts.length cp)
  have hbw2 := hbw1.setCell (p := ⟨W.heap.size, 7, none⟩) (Nat.le_refl _) (.slice op t.parts.length cp)
  have hsz2 : W0.heap.size ≤ (w1.setCell ⟨W.heap.size, 7, none⟩ (.slice op t.parts.length cp)).heap.size := by simp; exact hb1.size
  generalize w1.setCell ⟨W.heap.size, 7, none⟩ (.slice op t.parts.length cp) = w2 at bt2 bf2 br2 r12 hbw2 hsz2 ⊢
  clear bt1 bf1 br1 r1 hb1 hbw1 c17 z17 c19
  refine ⟨trivial, ?_⟩
  refine (callsIn_wide.2 (clone_overs _ t.overs _ (ht.overs.mono fun _ _ _ _ => OverAt.go (.below hbw2)) (by omega))).mono ?_
  rintro e w3 ⟨vo, rfl, r3, hb3⟩
  obtain ⟨oo, co, rfl⟩ := row_form r3
  have bt3 := bt2.below hb3 bt2.lt
  have bf3 : Boxed w3 _ 94 _ := (hb3.block _ bf2.lt).trans bf2
  have br3 := br2.below hb3 br2.lt
  have r13 := Row.below r12 hb3
  have hbw3 := hbw2.trans (hb3.mono hbw2.size)
  have c39 := bt3.cell 9
  have z39 := bt3.frozen 9
  have c38 := bt3.cell 8
  simp only [tyC, List.getElem?_cons_zero, List.getElem?_cons_succ] at c39 c38
  gi_wp2
  have bt4 := bt3.set 9 (.slice oo t.overs.length co)
  change Blk _ _ (tyC t (.slice op t.parts.length cp) (.slice o2 t.meths.length c2) (.slice oo t.overs.length co)) _ at bt4
  have bf4 := box_otherN bf3 (show W.heap.size + 1 ≠ W.heap.size by omega) 9 (.slice oo t.overs.length co)
  have br4 := br3.other 9 (.slice oo t.overs.length co) (show W.heap.size + 2 ≠ W.heap.size by omega)
  have r14 := row_setB r13 (show W.heap.size < W0.heap.size by omega) 9 (.slice oo t.overs.length co)
  have r34 := row_setB r3 (show W.heap.size < w2.heap.size by omega) 9 (.slice oo t.overs.length co)
  have hbw4 := hbw3.setCell (p := ⟨W.heap.size, 9, none⟩) (Nat.le_refl _) (.slice oo t.overs.length co)
  have hsz4 : W0.heap.size ≤ (w3.setCell ⟨W.heap.size, 9, none⟩ (.slice oo t.overs.length co)).heap.size := by simp; have := hb3.size; omega
  generalize w3.setCell ⟨W.heap.size, 9, none⟩ (.slice oo t.overs.length co) = w4 at bt4 bf4 br4 r14 r34 hbw4 hsz4 ⊢
  clear bt3 bf3 br3 r3 r13 hb3 hbw3 c39 z39 c38 bt2 bf2 br2 r12 hbw2
  refine ⟨trivial, ?_⟩
  refine (callsIn_wide.2 (clone_meths _ t.meths W _ (.below hbw4) ht.meths (by omega))).mono ?_
  rintro e w5 ⟨vm, M, rfl, hM, hMV, r5, hb5⟩
  obtain ⟨om, cm, rfl⟩ := row_form r5
  have bt5 := bt4.below hb5 bt4.lt
  have bf5 : Boxed w5 _ 94 _ := (hb5.block _ bf4.lt).trans bf4
  have br5 := br4.below hb5 br4.lt
  have r15 := Row.below r14 hb5
  have r35 := Row.below r34 hb5
  have hbw5 := hbw4.trans (hb5.mono hbw4.size)
  have c58 := bt5.cell 8
  have z58 := bt5.frozen 8
  simp only [tyC, List.getElem?_cons_zero, List.getElem?_cons_succ] at c58
  gi_wp2
  have bt6 := bt5.set 8 (.slice om t.meths.length cm)
  change Blk _ _ (tyC t (.slice op t.parts.length cp) (.slice om t.meths.length cm) (.slice oo t.overs.length co)) _ at bt6
  have hRN : RN W (w5.setCell ⟨W.heap.size, 8, none⟩ (.slice om t.meths.length cm)) t (.func (.func ff) #[] caps) W0.heap.size (.slice op t.parts.length cp) (.slice om t.meths.length cm) (.slice oo t.overs.length co) M 0 := by
    refine ⟨hbw5.setCell (p := ⟨W.heap.size, 8, none⟩) (Nat.le_refl _) _, hs0, bt6, box_otherN bf5 (by omega) 8 _, br5.other 8 _ (by omega), row_setB r15 (by omega) 8 _, Row.mono (row_setB r35 (by omega) 8 _) (by omega), Row.mono (row_setB r5 (by omega) 8 _) (by omega), hM, fun j h hj => by omega, fun j h _ => hMV _ (List.getElem_mem h), fun j k h hj hk => by omega⟩
  generalize w5.setCell ⟨W.heap.size, 8, none⟩ (.slice om t.meths.length cm) = w6 at hRN bt6 ⊢
  generalize W0.heap.size = N at hRN
  clear bt5 bf5 br5 r15 r35 r5 hb5 hbw5 c58 z58 bt4 bf4 br4 r14 r34 hbw4 hsz4 bt0 bf0 br0 hs0 hb0 bt6 hM hMV hsz2
  have hml : t.meths.length ≤ 1000 := hm
  gi_loopw [23] (fun i wr => ∃ (q : Nat) (X : List MV), q ≤ t.meths.length ∧ i = .int .i64 q ∧ RN W wr t (.func (.func ff) #[] caps) N (.slice op t.parts.length cp) (.slice om t.meths.length cm) (.slice oo t.overs.length co) X q) (fun i _ => t.meths.length - (intOf i).toNat)
  case atStart => exact ⟨0, M, Nat.zero_le _, rfl, hRN⟩
  case round =>
    clear hRN
    obtain ⟨q, X, hq, rfl, hR⟩ := hrel
    have hXl : X.length = t.meths.length := by rw [← hR.xm]; simp
    by_cases hlt : q < t.meths.length
    · have hlt' : (q : Int) < t.meths.length := by omega
      obtain ⟨mb, rfl⟩ := row_some hR.rm (by omega)
      have hqX : q < X.length := by omega
      have hmem : X[q].1 ∈ t.meths := by rw [← hR.xm]; exact List.mem_map_of_mem (List.getElem_mem hqX)
      obtain ⟨ha1, ha2⟩ := hma _ hmem
      have hold := hR.old q hqX (Nat.le_refl _)
      have cb8 := hR.b.cell 8
      simp only [tyC, List.getElem?_cons_zero, List.getElem?_cons_succ] at cb8
      have c1m : wr.cell? ⟨mb, q * 5 + 1, none⟩ = some X[q].2.1 := by
        rw [World.ownsRow.cellAt hR.rm (q * 5 + 1) (by omega)]
        unfold mvCells; rw [flat_get (sz := 5) (fun _ => rfl) X q 1 hqX (by omega)]; rfl
      have HC1 := hide (clone_ints X[q].2.1 X[q].1.args wr (hold.args.mono fun _ _ _ _ => IntAt.go (.below hR.bel)) (by omega))
      have hform1 := hold.args.form
      have hform2 := hold.raises.form
      have HSTEP := hide (fun (w1 w3 : World) (n1 n3 : Value) (hb1 : Below wr.heap.size wr w1) r1 hb3 r3 => RN.step (w1 := w1) (w3 := w3) (v1 := n1) (v3 := n3) hR hqX hb1 r1 hb3 r3)
      gi_wp2
      refine ⟨trivial, ?_⟩
      refine (callsIn_wide.2 (unhide HC1)).mono ?_
      rintro e w1 ⟨n1, rfl, r1, hb1⟩
      obtain ⟨on1, cn1, rfl⟩ := row_form r1
      have rm1 := Row.below hR.rm hb1
      have hb1W := hR.bel.trans (hb1.mono hR.bel.size)
      obtain ⟨hmN, cs1, hm1⟩ := row_block rm1
      have c1w := Holds.below hb1 _ _ c1m
      have z1w : w1.frozen? ⟨mb, q * 5 + 1, none⟩ = false := by simp [World.frozen?, hm1]
      have rm2 := row_setN rm1 (q * 5 + 1) (.slice on1 X[q].1.args.length cn1)
      rw [mv_set1 X q hqX] at rm2
      have hqs : q < (X.set q (X[q].1, (.slice on1 X[q].1.args.length cn1), X[q].2.2)).length := by simpa using hqX
      have c3m : (w1.setCell ⟨mb, q * 5 + 1, none⟩ (.slice on1 X[q].1.args.length cn1)).cell? ⟨mb, q * 5 + 1 + 2, none⟩ = some X[q].2.2 := by
        rw [show q * 5 + 1 + 2 = q * 5 + 3 by omega, World.ownsRow.cellAt rm2 (q * 5 + 3) (by omega)]
        unfold mvCells
        rw [flat_get (sz := 5) (fun _ => rfl) _ q 3 hqs (by omega)]
        simp [mvC]
      have hb2W : Below W.heap.size W (w1.setCell ⟨mb, q * 5 + 1, none⟩ (.slice on1 X[q].1.args.length cn1)) := hb1W.setCell (p := ⟨mb, q * 5 + 1, none⟩) (show W.heap.size ≤ mb by have := hR.hN; omega) (.slice on1 X[q].1.args.length cn1)
      have HC2 := hide (clone_strs X[q].2.2 X[q].1.raises (w1.setCell ⟨mb, q * 5 + 1, none⟩ (.slice on1 X[q].1.args.length cn1)) (hold.raises.mono fun _ _ _ _ => StrAt.go (.below hb2W)) (by omega))
      clear HC1
      gi_wp2
      refine ⟨trivial, ?_⟩
      refine (callsIn_wide.2 (unhide HC2)).mono ?_
      rintro e w3 ⟨n3, rfl, r3, hb3⟩
      obtain ⟨on3, cn3, rfl⟩ := row_form r3
      have rm3 := Row.below rm2 hb3
      obtain ⟨_, cs3, hm3⟩ := row_block rm3
      have c3w : w3.cell? ⟨mb, q * 5 + 1 + 2, none⟩ = some X[q].2.2 := Holds.below hb3 _ _ c3m
      have z3w : w3.frozen? ⟨mb, q * 5 + 1 + 2, none⟩ = false := by simp [World.frozen?, hm3]
      have hfin := unhide HSTEP w1 w3 _ _ hb1 r1 hb3 r3
      clear HC2 HSTEP
      gi_wp2
      go_roundw
      case rel => exact ⟨q + 1, _, by omega, by go_num, hfin⟩
      case measure => simp [intOf]; omega
    · obtain rfl : q = t.meths.length := by omega
      have HPL := hide (fun w => places_any ⟨W.heap.size, 0, none⟩ w)
      gi_wp2_with (refine ⟨trivial, ?_⟩; gi_at_call 116; refine (callsIn_wide.2 (unhide HPL _)).mono ?_; rintro e w5 ⟨rfl, rfl⟩)
      have hI0 := hR.start tf (.pointer (some ⟨W.heap.size, 0, none⟩))
      have hnd := hR.nodup
      clear HPL
      have hw5 : (wr.alloc (.cells #[.pointer (some ⟨W.heap.size, 0, none⟩)] 126)).heap.size = wr.heap.size + 1 := by simp
      generalize wr.alloc (.cells #[.pointer (some ⟨W.heap.size, 0, none⟩)] 126) = w5 at hI0 hw5 ⊢
      have hbsz := hR.bel.size
      have HW5 := Lib.hid hw5
      clear hw5
      have HND := Lib.hid hnd
      clear hnd
      refine wpIn_rangeGives (gf := 168) (lb := #[.pointer (some ⟨wr.heap.size, 0, none⟩)]) (fun x : Addr => #[.pointer (some x)]) (allL W t op om X) (by simp [go_sem]) (enters_of Tryz.func168 (by kernel_rfl) rfl) (fun _ => rfl)
        (IN W wr tf (allL W t op om X) wr.heap.size (.pointer (some ⟨W.heap.size, 0, none⟩)) (.func (.func ff) #[] caps))
        hI0 ?it ?ia ?ip ?a1 ?assign ?body ?done
      case it =>
        intro l J hJI hY W' h0
        have hXl : X.length = t.meths.length := by rw [← hR.xm]; simp
        have := places_in l wr.heap.size W.heap.size 0 t.kind op t.parts.length cp om cm (X.map sigOf) (by omega) (by simp; omega)
          (fun s hs => by
            obtain ⟨i, hi, rfl⟩ := List.mem_iff_getElem.1 hs
            have hi' : i < X.length := by simpa using hi
            have hmem : X[i].1 ∈ t.meths := by rw [← hR.xm]; exact List.mem_map_of_mem (List.getElem_mem hi')
            obtain ⟨o, c, _, e2, e3⟩ := hR.sig hi'
            rw [List.getElem_map, e2]
            exact ⟨by have := (hma _ hmem).1; show X[i].1.args.length ≤ _; omega, fun h0 => by obtain ⟨ab, e4, _⟩ := e3 h0; exact ⟨ab, 0, e4⟩⟩)
          (fun h0 => by obtain ⟨g, e⟩ := row_some hR.rp h0; exact ⟨g, 0, e⟩)
          (fun h0 => by obtain ⟨g, e⟩ := row_some hR.rm (by simpa [hXl] using h0); exact ⟨g, 0, e⟩)
          J (fun p W1 h => ⟨(hJI p W1 h).cb.cell, by have := hR.reads (hJI p W1 h); simpa [hXl] using this⟩)
          (fun m h p W1 hj mb moff e => hR.sigs (hJI p W1 hj) h e)
          (fun m h j W1 _ hj mb moff e => hR.ress h (hJI _ W1 hj) e)
          hY W' h0
        exact this
      case ia =>
        rintro pre W' o' h
        exact h.below ((Below.refl _ _).alloc (Nat.le_refl _) _)
      case ip =>
        rintro pre W' l o1 o' h hl ho hoc
        exact h.put o' ho hoc (by have := HW5.out; omega)
      case assign =>
        intro l x W' K hK
        gi_wp2
        exact hK
      case body =>
        rintro l pre x W1 hpx hI
        have hin : x ∈ allL W t op om X := hpx.subset (by simp)
        obtain ⟨v, hv, hvr⟩ := hR.val hin
        have hxp : x ∉ pre := by
          intro e
          have := HND.out.sublist hpx.sublist
          rw [List.nodup_append] at this
          exact this.2.2 _ e _ (List.mem_singleton.2 rfl) rfl
        have hx1 := hI.cell hxp hv
        have hnv : newV wr tf x = .int .i64 (tf v) := by unfold newV valI; rw [hv]
        obtain ⟨hbx, _, _, _, hsp, _⟩ := hR.tag hin
        obtain ⟨hx2, hx3, hx4⟩ := hR.apart hin
        have c3 := hI.f.cell
        have zx := (hI.fz x hin).2.1
        have hmore := fun nn => (hI.below (W2 := W1.drewN nn) (below_drewN' (Below.refl _ _) nn)).more hpx (by rw [setAll_other _ _ hxp, hv]; rfl) hbx hsp (by omega) hx3 hx4
        rw [hnv] at hmore
        have HM := hide hmore
        have HC := hide (fun w1 (hb : ∃ n, w1 = W1.drewN n) => unhide HTF w1 (by obtain ⟨n, rfl⟩ := hb; exact below_drewN' hI.bel n) v hvr)
        have hmx : Tryz.prog.follows .mixedOrders = true := by kernel_rfl
        clear hmore hnv hI hR hma hin hvr hv hpx hxp hbsz hbx hx2 hx3 hx4
        gi_wp2
        refine tail_round 7 hmx (by kernel_rfl) (by kernel_rfl) (by rintro ⟨a, w, h⟩; exact absurd h.1 (by simp)) ?_
        simp only [List.take_succ_cons, List.take_zero, List.drop_succ_cons, List.drop_zero]
        repeat (go_big_quiet_step (fail))
        go_big_quiet_want
        go_big_quiet_op
        refine ⟨.int .i64 (tf v), fun nn => (unhide HC (W1.drewN nn) ⟨nn, rfl⟩).mono ?_, ?_⟩
        · rintro e w2 ⟨rfl, rfl⟩
          exact ⟨rfl, nn, rfl⟩
        go_big_quiet_on
        repeat (go_big_quiet_step (fail))
        refine wpQuiet_nil ?_
        rintro _ ⟨nd, rfl⟩
        have hq1 : (W1.drewN nd).cell? x = some (.int .i64 v) := by simpa using hx1
        have hq2 : (W1.drewN nd).frozen? x = false := by simpa using zx
        have hq3 := unhide HM nd
        generalize hWn : W1.drewN nd = W2 at hq1 hq2 hq3 ⊢
        have hkf : KeepsFrom w5.heap.size W1 (W2.setCell x (.int .i64 (tf v))) := by
          rw [← hWn]; exact (keepsFrom_below (below_drewN' (Below.refl _ _) nd)).trans ((KeepsOthers.setCell _ _ _).from _)
        clear hWn
        go_wp2
      case done =>
        rintro W6 hI hK6
        have hcs := hR.cells (tf := tf) (W' := W6) (fun i v h => hI.hold _ v h)
        have hRD := hide (fun (W' : World) (h : HoldsFrom (W.heap.size + 3) W6 W') => hR.done (tf := tf) (W' := W') (fun b i hb v hv => h b i hb v (hI.hold _ v hv)))
        have hNn := hR.hN
        have hbt6 : W6.heap[W.heap.size]? = some (.cells (tyC (mapTy tf t) (.slice op t.parts.length cp) (.slice om t.meths.length cm) (.slice oo t.overs.length co)).toArray 62 (0, 0)) := by
          obtain ⟨cs, h1, h2⟩ := hI.t
          rw [← row_eq h1 (by rw [h2]; rfl) hcs]; exact h1
        have hr6 : W6.heap[W.heap.size + 2]? = some (.cells zeroTyC.toArray 62 (0, 0)) := hI.r
        have hbl6 := hI.bel
        generalize hU : mapTy tf t = U at hRD hcs hbt6
        have d0 : W6.cell? ⟨W.heap.size, 0, none⟩ = some (.int .u8 U.kind) := hcs 0 _ rfl
        have d1 : W6.cell? ⟨W.heap.size, 1, none⟩ = some (.int .i64 U.low) := hcs 1 _ rfl
        have d2 : W6.cell? ⟨W.heap.size, 2, none⟩ = some (.int .i64 U.high) := hcs 2 _ rfl
        have d3 : W6.cell? ⟨W.heap.size, 3, none⟩ = some (.bool U.branded) := hcs 3 _ rfl
        have d4 : W6.cell? ⟨W.heap.size, 4, none⟩ = some (.string U.brand) := hcs 4 _ rfl
        have d5 : W6.cell? ⟨W.heap.size, 5, none⟩ = some (.string U.opq) := hcs 5 _ rfl
        have d6 : W6.cell? ⟨W.heap.size, 6, none⟩ = some (.int .i64 U.super) := hcs 6 _ rfl
        have d7 : W6.cell? ⟨W.heap.size, 7, none⟩ = some (.slice op t.parts.length cp) := hcs 7 _ rfl
        have d8 : W6.cell? ⟨W.heap.size, 8, none⟩ = some (.slice om t.meths.length cm) := hcs 8 _ rfl
        have d9 : W6.cell? ⟨W.heap.size, 9, none⟩ = some (.slice oo t.overs.length co) := hcs 9 _ rfl
        have hw2 : W.heap.size + 2 < wr.heap.size := by
          have h2 := hR.r.lt
          exact h2
        have hr7 : Blk W6 (W.heap.size + 1 + 1) zeroTyC 62 := hI.r
        have zr := hr7.frozen
        have f0 := hr7.cell 0
        have f1 := hr7.cell 1
        have f2 := hr7.cell 2
        have f3 := hr7.cell 3
        have f4 := hr7.cell 4
        have f5 := hr7.cell 5
        have f6 := hr7.cell 6
        have f7 := hr7.cell 7
        have f8 := hr7.cell 8
        have f9 := hr7.cell 9
        simp only [zeroTyC, List.getElem?_cons_zero, List.getElem?_cons_succ] at f0 f1 f2 f3 f4 f5 f6 f7 f8 f9
        have HR7 := hide hr7
        clear hcs hI hR hI0 hr7 hbt6 hr6
        gi_wp2
        have hb7 := tyPut_blk U (.slice op t.parts.length cp) (.slice om t.meths.length cm) (.slice oo t.overs.length co) (unhide HR7)
        have hh7 := tyPut_holds (w := W6) (b := W.heap.size + 2) U (.slice op t.parts.length cp) (.slice om t.meths.length cm) (.slice oo t.overs.length co)
        have hl7 := tyPut_below U (.slice op t.parts.length cp) (.slice om t.meths.length cm) (.slice oo t.overs.length co) (show W.heap.size ≤ W.heap.size + 2 by omega) hbl6
        have hk7 := (tyPut_heap (w := W6) (b := W.heap.size + 2) (k := w5.heap.size) U (.slice op t.parts.length cp) (.slice om t.meths.length cm) (.slice oo t.overs.length co) (by have := HW5.out; omega)).trans hK6
        refine (show bodyPostM Fence.wide 2 Tryz.prog Tryz.f77 _ Exit.ret _ (tyPut W6 (W.heap.size + 2) U (.slice op t.parts.length cp) (.slice om t.meths.length cm) (.slice oo t.overs.length co)) from ?_)
        change Blk (tyPut W6 (W.heap.size + 2) U (.slice op t.parts.length cp) (.slice om t.meths.length cm) (.slice oo t.overs.length co)) (W.heap.size + 2) _ 62 at hb7
        generalize tyPut W6 (W.heap.size + 2) U (.slice op t.parts.length cp) (.slice om t.meths.length cm) (.slice oo t.overs.length co) = W7 at hb7 hh7 hl7 hk7 ⊢
        refine ⟨by simp, .inl ⟨_, _, rfl, run_takeDeferred hk7, ?_⟩⟩
        have hbp : (W7.putObj w5.heap.size (.deferred none)).heap[W.heap.size + 2]? = some (.cells (tyC U (.slice op t.parts.length cp) (.slice om t.meths.length cm) (.slice oo t.overs.length co)).toArray 62 (0, 0)) := (World.putObj_heap_other (by have := HW5.out; omega)).trans hb7
        refine ⟨_, results_cell_row rfl _ _ (W.heap.size + 2) 62 _ (0, 0) _ rfl hbp Tryz.underlying62 rfl (by kernel_rfl), .slice op t.parts.length cp, .slice om t.meths.length cm, .slice oo t.overs.length co, by rw [hU]; rfl, ?_, ?_⟩
        · rw [hU]
          intro W'' hW''
          refine unhide hRD _ (fun b i hb v hv => ?_)
          have h8 := holds_put (.deferred none) hk7 rfl _ _ (hh7 b i hb v hv)
          exact hW'' b i v (by omega) (block_lt_of_cell h8) h8
        · exact hl7.grown (grownBy_putObj' W7 _ _) hl7.size (fun j e => by cases e; have := HW5.out; omega)
end Go.Proofs.YteaokkaidcbdlaaGreatDoor

namespace Go.Proofs.YteaokkaidcbdlaaGreatDoor
open Go Go.RowKit Go.Shelf
attribute [local go_sem] Oper.semAt_some
def toF (tt : List Int) (x : Int) : Int := tt.getD x.toNat 0
theorem pick113 {W : World} {b : Nat} {o : Option Addr} {c : Nat} {tt : List Int} (hb : Boxed W b 37 (.slice o tt.length c)) (h : SliceOf 1 (IntAt W) (.slice o tt.length c) tt) {x : Int} (h0 : 0 ≤ x) (h1 : x < tt.length) :
    Calls Tryz.prog 113 #[.int .i64 x, .pointer (some ⟨b, 0, none⟩)] W fun e w' => e = .returned (.int .i64 (toF tt x)) ∧ w' = W := by
  obtain ⟨i, rfl⟩ := Int.eq_ofNat_of_zero_le h0
  have hi : i < tt.length := by omega
  obtain ⟨-, -, -, hat⟩ := h.at
  obtain ⟨b', off, rfl, hc⟩ := hat i tt[i] (List.getElem?_eq_getElem hi)
  have hv : toF tt (i : Int) = tt[i] := by unfold toF; simp [List.getD_eq_getElem?_getD, hi]
  rw [hv]
  generalize tt[i] = y at hc ⊢
  unfold IntAt at hc
  rw [Nat.mul_one] at hc
  have hbc := hb.cell
  clear hat
  go_enter Tryz.func113, Tryz.ntmps113
  go_wp2
  go_ret
  exact ⟨rfl, rfl⟩
theorem info62 : (Tryz.prog.info? 62).map (fun i => (i.zero, i.size, i.bytes)) = some (some (.agg #[.int .u8 0, .int .i64 0, .int .i64 0, .bool false, .string ⟨#[]⟩, .string ⟨#[]⟩, .int .i64 0, .slice none 0 0, .slice none 0 0, .slice none 0 0]), 10, 144) := by kernel_rfl
structure GrOwn (base : Nat) (w : World) (v : Value) (es : List Ent) : Prop where
  row : w.ownsRow base 62 10 v es.length (es.flatMap Ent.cells)
  far : ∀ e ∈ es, ∃ S E, base ≤ S ∧ E ≤ w.heap.size ∧ Far S E w e.p e.m e.o e.t ∧ ∀ g, v.ownBlock = some g → g < S ∨ E ≤ g
theorem GrOwn.gr {base : Nat} {w : World} {v : Value} {es : List Ent} (h : GrOwn base w v es) : GrAt w v (es.map Ent.t) := by
  have hrow := h.row
  obtain ⟨o, c, rfl⟩ := row_form hrow
  obtain ⟨c1, c2⟩ := row_caps hrow
  by_cases h0 : 0 < es.length
  · obtain ⟨g, rfl⟩ := row_some hrow h0
    refine gr_of es (fun j u hj => ?_) (fun e he => ?_) c1 c2
    · rw [World.ownsRow.cellAt hrow j (by
        have h1 := (List.getElem?_eq_some_iff.1 hj).1
        have h2 := hrow.1
        omega)]
      exact hj
    · obtain ⟨S, E, _, _, hf, _⟩ := h.far e he
      exact hf.self
  · have : es = [] := List.eq_nil_of_length_eq_zero (by omega)
    subst this
    exact ⟨o, c, by simp, by simp, c2, fun i x hx => by simp at hx⟩
theorem GrOwn.below {base : Nat} {w w' : World} {v : Value} {es : List Ent} (h : GrOwn base w v es) (hb : Below w.heap.size w w') : GrOwn base w' v es :=
  ⟨Row.below h.row hb, fun e he => by
    obtain ⟨S, E, h1, h2, h3, h4⟩ := h.far e he
    exact ⟨S, E, h1, by have := hb.size; omega, h3.kept (fun b _ hlt => hb.block b (by omega)), h4⟩⟩
theorem GrOwn.more {base : Nat} {w w1 w2 : World} {v v' : Value} {es : List Ent} {e : Ent} {tmp : Obj} (h : GrOwn base w v es) (hB : base ≤ w.heap.size) (hb : Below w.heap.size w w1) (hf : Far w.heap.size w1.heap.size w1 e.p e.m e.o e.t)
    (hown : w2.ownsRow base 62 10 v' (es.length + 1) (es.flatMap Ent.cells ++ e.cells)) (hg : (w1.alloc tmp).grownBy w2 v.ownBlock) (hv : v'.ownBlock = v.ownBlock ∨ v'.ownBlock = some (w1.alloc tmp).heap.size) : GrOwn base w2 v' (es ++ [e]) := by
  have hsz := hb.size
  have hs1 : (w1.alloc tmp).heap.size = w1.heap.size + 1 := by simp
  have hs2 := hg.size
  rw [hs1] at hv hs2
  have hkeep : ∀ b, b < w1.heap.size → some b ≠ v.ownBlock → w2.heap[b]? = w1.heap[b]? := fun b hlt hne => (hg.block b (by omega) hne).trans (Below.heap_alloc _ _ _ hlt)
  have hvb : ∀ g, v.ownBlock = some g → g < w.heap.size := fun g hg => (h.row.lt g hg).2
  refine ⟨by simpa using hown, fun x hx => ?_⟩
  rw [List.mem_append] at hx
  rcases hx with hx | hx
  · obtain ⟨S, E, h1, h2, h3, h4⟩ := (h.below hb).far x hx
    obtain ⟨S', E', h1', h2', h3', h4'⟩ := h.far x hx
    refine ⟨S', E', h1', by omega, h3'.kept (fun b ha hlt => ?_), fun g hg' => ?_⟩
    · refine (hkeep b (by omega) (fun e => ?_)).trans (hb.block b (by omega))
      rcases h4' b e.symm with h5 | h5 <;> omega
    · rcases hv with hv | hv
      · exact h4' g (hv ▸ hg')
      · rw [hv] at hg'; cases hg'
        right; omega
  · simp at hx; subst hx
    refine ⟨w.heap.size, w1.heap.size, hB, by omega, hf.kept (fun b ha hlt => hkeep b hlt (fun e => ?_)), fun g hg' => ?_⟩
    · have := hvb b e.symm; omega
    · rcases hv with hv | hv
      · have := hvb g (hv ▸ hg'); omega
      · rw [hv] at hg'; cases hg'
        right; omega
set_option maxRecDepth 100000 in
set_option maxHeartbeats 8000000 in
theorem picked_any (og : Option Addr) (cg : Nat) (G T : List TyD) (l : List Nat) (tt : List Int) (vl vt : Value) (W : World) (hG : GrAt W (.slice og G.length cg) G) (hl : SliceOf 1 (IntAt W) vl (l.map Int.ofNat)) (ht : SliceOf 1 (IntAt W) vt tt)
    (hll : l.length ≤ 1000) (hT : T.length = l.length) (hTl : ∀ j (h : j < l.length), ∃ h' : l[j] < G.length, T[j]? = some G[l[j]])
    (hb : ∀ t ∈ G, t.parts.length ≤ 1000 ∧ t.meths.length ≤ 1000 ∧ t.overs.length ≤ 1000 ∧ ∀ m ∈ t.meths, m.args.length ≤ 1000 ∧ m.raises.length ≤ 1000)
    (hz : ∀ t ∈ T, ∀ x ∈ refsOf t, 0 ≤ x ∧ x < tt.length) :
    Calls Tryz.prog 70 #[.slice og G.length cg, vl, vt] W fun e w' => ∃ v es, e = .returned v ∧ es.map Ent.t = T.map (mapTy (toF tt)) ∧ GrOwn W.heap.size w' v es ∧ Below W.heap.size W w' := by
  obtain ⟨ol, cl, rfl⟩ := hl.form
  obtain ⟨ot, ct, rfl⟩ := ht.form
  have hll' : (l.map Int.ofNat).length = l.length := by simp
  rw [hll'] at hl ⊢
  obtain ⟨i0, hi0, hz0, hz1, hz2⟩ := info_parts info62
  go_enter Tryz.func70, Tryz.ntmps70
  go_wp2
  have hb0 : Below W.heap.size W (W.alloc (.cells #[.slice ot tt.length ct] 37)) := (Below.refl _ _).alloc (Nat.le_refl _) _
  have bx0 := Boxed.new W 37 (.slice ot tt.length ct)
  have hs0 : (W.alloc (.cells #[.slice ot tt.length ct] 37)).heap.size = W.heap.size + 1 := by simp
  generalize W.alloc (.cells #[.slice ot tt.length ct] 37) = W0 at hb0 bx0 hs0 ⊢
  have HS0 := Lib.hid hs0
  clear hs0
  go_loopw [7, 12] (fun v i wr => ∃ (k : Nat) (es : List Ent), k ≤ l.length ∧ i = .int .i64 k ∧ es.length = k ∧ es.map Ent.t = (T.take k).map (mapTy (toF tt)) ∧ GrOwn W.heap.size wr v es ∧ Below W.heap.size W wr ∧ Boxed wr W.heap.size 37 (.slice ot tt.length ct)) (fun _ i _ => l.length - (intOf i).toNat)
  case atStart => exact ⟨0, [], Nat.zero_le _, rfl, rfl, by simp, ⟨World.ownsRow_nil _ _ _ _, fun e he => by simp at he⟩, hb0, bx0⟩
  case round =>
    clear hb0 bx0
    obtain ⟨k, es, hk, rfl, hek, hes, hO, hB, hX⟩ := hrel
    subst hek
    by_cases hlt : es.length < l.length
    · have hlt' : (es.length : Int) < l.length := by omega
      obtain ⟨-, -, -, hatl⟩ := hl.at
      obtain ⟨lb, loff, rfl, hlc⟩ := hatl es.length (l[es.length] : Int) (by simp [hlt])
      obtain ⟨hlG, hTk⟩ := hTl es.length hlt
      have hlG' : (l[es.length] : Int) < G.length := by omega
      obtain ⟨gb, goff, rfl, hTy⟩ := hG.at.2.2.2 l[es.length] G[l[es.length]] (List.getElem?_eq_getElem hlG)
      have hTy1 := hTy.go (.below hB)
      have hmem := List.getElem_mem hlG
      have hTm : G[l[es.length]] ∈ T := List.mem_of_getElem? hTk
      obtain ⟨ot', eot⟩ : ∃ t, G[l[es.length]] = t := ⟨_, rfl⟩
      rw [eot] at hTy1 hmem hTm hTk
      obtain ⟨hb1, hb2, hb3, hb4⟩ := hb _ hmem
      obtain ⟨vp, vm, vo, hTL, k0, k1, k2, k3, k4, k5, k6, k7, k8, k9⟩ := hTy1
      have hlc1 : wr.cell? ⟨lb, loff + es.length, none⟩ = some (.int .i64 l[es.length]) := by
        have := Holds.below hB _ _ hlc
        rwa [Nat.mul_one] at this
      have HR := hide (renumbered_any ot' vp vm vo 113 #[.pointer (some ⟨W.heap.size, 0, none⟩)] (toF tt) wr hTL hb1 hb2 hb3 hb4 (fun W' hbW x hx => by
        obtain ⟨x0, x1⟩ := hz _ hTm x hx
        exact pick113 ((hbW.block _ hX.lt).trans hX) (ht.mono fun _ _ _ _ => IntAt.go (.below (hB.trans (hbW.mono hB.size)))) x0 x1) (enters_of Tryz.func113 (by kernel_rfl) rfl))
      have hrow := hO.row
      obtain ⟨o1, c1, rfl⟩ := row_form hrow
      generalize l[es.length] = lk at hlG' hlG hlc1 k0 k1 k2 k3 k4 k5 k6 k7 k8 k9
      clear hatl hlc hTy hTL
      unfold tyVal at HR
      obtain ⟨U, hU⟩ : ∃ U, mapTy (toF tt) ot' = U := ⟨_, rfl⟩
      rw [hU] at HR
      go_wp2_with (first
        | (go_at_call 77; with_reducible refine (unhide HR).mono ?_; clear HR; rintro e w1 ⟨u1, u2, u3, rfl, hfar, hbw⟩)
        | (at_builtin; refine wpList_append_own_at _ rfl _ _ 23 rfl W.heap.size 62 i0 (.agg #[.int .u8 0, .int .i64 0, .int .i64 0, .bool false, .string ⟨#[]⟩, .string ⟨#[]⟩, .int .i64 0, .slice none 0 0, .slice none 0 0, .slice none 0 0]) 10 144 Tryz.underlying23 hi0 hz0 hz1 hz2 rfl (by decide) _ es.length (es.flatMap Ent.cells) rfl (World.ownsRow.alloc (Row.below hrow hbw) _) ⟨_, 0, none⟩ 1 1 (tyC U u1 u2 u3) rfl rfl ?c1 ?c2 ?c3 ?c4 ?c5 ?_))
      case c1 => intro j u hj; rw [add_zero_addr]; exact (Blk.new w1 (tyC U u1 u2 u3) 62).cell j |>.trans hj
      case c2 =>
        intro u hu
        have hs := hfar.self
        obtain ⟨_, _, rfl⟩ := hs.parts.form
        obtain ⟨_, _, rfl⟩ := hs.meths.form
        obtain ⟨_, _, rfl⟩ := hs.overs.form
        simp [tyC] at hu
        rcases hu with rfl | rfl | rfl | rfl | rfl | rfl | rfl | rfl | rfl | rfl <;> rfl
      case c3 => unfold maxLen; omega
      case c4 => omega
      case c5 => have := hB.size; have := hbw.size; simp; omega
      intro v' w2 hown' hgrow _ hv'
      have hO2 := hO.more (e := ⟨U, u1, u2, u3⟩) hB.size hbw hfar hown' hgrow (by simpa using hv')
      have hX1 : Boxed w1 W.heap.size 37 _ := (hbw.block _ hX.lt).trans hX
      have hX2 : Boxed w2 W.heap.size 37 _ := (hX1.alloc (.cells (tyC U u1 u2 u3).toArray 62)).kept hgrow ((hX1.alloc (.cells (tyC U u1 u2 u3).toArray 62)).not_row (by decide) ((Row.below hrow hbw).alloc (.cells (tyC U u1 u2 u3).toArray 62)))
      have hB2 : Below W.heap.size W w2 := ((hB.trans (hbw.mono hB.size)).alloc (by have := hB.size; have := hbw.size; omega) _).grown hgrow (by have := hB.size; have := hbw.size; simp; omega) (fun j e => (hrow.lt j e).1)
      have hes2 : (es ++ [(⟨U, u1, u2, u3⟩ : Ent)]).map Ent.t = (T.take (es.length + 1)).map (mapTy (toF tt)) := by
        have hlT : es.length < T.length := by omega
        rw [List.getElem?_eq_getElem hlT] at hTk
        injection hTk with hTk
        rw [List.take_succ_eq_append_getElem hlT, List.map_append, List.map_append, hes, hTk]
        simp [hU]
      clear hown' hgrow hrow hO hes hX hfar hbw
      go_wp2
      go_roundw
      case rel => exact ⟨es.length + 1, es ++ [⟨U, u1, u2, u3⟩], by omega, by go_num, by simp, hes2, hO2, hB2, hX2⟩
      case measure => simp [intOf]; omega
    · have hll2 : es.length = l.length := by omega
      have hge : ¬ ((es.length : Int) < l.length) := by omega
      rw [hll2, ← hT, List.take_length] at hes
      clear hX
      go_wp2
      go_ret
      exact ⟨_, rfl, es, hes, hO, hB⟩
end Go.Proofs.YteaokkaidcbdlaaGreatDoor

namespace Go.Proofs.YteaokkaidcbdlaaGreatDoor
open Go Go.RowKit Go.Shelf
attribute [local go_sem] Oper.semAt_some
def mergeS (c : Nat → Nat) : Nat → List Nat × List Nat
  | 0 => ([], [])
  | k + 1 => if c k = k then ((mergeS c k).1 ++ [k], (mergeS c k).2 ++ [(mergeS c k).1.length]) else ((mergeS c k).1, (mergeS c k).2 ++ [(mergeS c k).2.getD (c k) 0])
theorem mergeS_len (c : Nat → Nat) : ∀ k, (mergeS c k).2.length = k ∧ (mergeS c k).1.length ≤ k ∧ ∀ x ∈ (mergeS c k).1, x < k
  | 0 => ⟨rfl, Nat.le_refl _, fun x h => by simp [mergeS] at h⟩
  | k + 1 => by
    obtain ⟨h1, h2, h3⟩ := mergeS_len c k
    unfold mergeS
    split
    · refine ⟨by simp [h1], by simp; omega, fun x hx => ?_⟩
      rw [List.mem_append] at hx
      rcases hx with hx | hx
      · have := h3 x hx; omega
      · simp at hx; omega
    · exact ⟨by simp [h1], by simp; omega, fun x hx => by have := h3 x hx; omega⟩
def mergeL (G : List TyD) : List Nat × List Nat := mergeS (clF G) G.length
def mergeT (G : List TyD) : List TyD := (mergeL G).1.map fun i => mapTy (toF ((mergeL G).2.map Int.ofNat)) (G.getD i default)
theorem clF_le (G : List TyD) : ∀ i, i < G.length → clF G i ≤ i := by
  unfold clF classesL
  have h0 := leasts_spec (fun f i => agreeB (G.getD f default) (G.getD i default)) G.length
  have h1 := fun i hi => (h0.2.1 i hi).1
  generalize (leastsS (fun f i => agreeB (G.getD f default) (G.getD i default)) G.length).2 = c at h1
  clear h0
  generalize G.length + 1 = m
  induction m generalizing c with
  | zero => exact h1
  | succ m ih =>
    unfold settle
    split
    · exact h1
    · exact ih _ (fun i hi => ((leasts_spec (finerB (c.map Int.ofNat) (G.map refsOf)) G.length).2.1 i hi).1)
structure MgI (B : Nat) (w1 : World) (L M : List Nat) (v7 v8 : Value) (wr : World) : Prop where
  bel : Below B w1 wr
  hB : B ≤ wr.heap.size
  r7 : wr.ownsRow B 3 1 v7 L.length (natsV L)
  r8 : wr.ownsRow B 3 1 v8 M.length (natsV M)
  apt : Apt v7 v8
theorem MgI.push7 {B : Nat} {w1 wr w2 : World} {L M : List Nat} {v7 v8 : Value} {g cap x : Nat} {tmp : Obj} (h : MgI B w1 L M v7 v8 wr)
    (hown : w2.ownsRow B 3 1 (.slice (some ⟨g, 0, none⟩) (L.length + 1) cap) (L.length + 1) (natsV L ++ [natI x])) (hgrow : (wr.alloc tmp).grownBy w2 v7.ownBlock) (hg : v7.ownBlock = some g ∨ g = wr.heap.size + 1)
    (hbl : ∀ B' w0, Below B' w0 (wr.alloc tmp) → B' ≤ B → Below B' w0 w2) : MgI B w1 (L ++ [x]) M (.slice (some ⟨g, 0, none⟩) (L.length + 1) cap) v8 w2 := by
  refine ⟨hbl _ _ (h.bel.alloc h.hB _) (Nat.le_refl _), Nat.le_trans h.hB (Nat.le_trans (by simp) hgrow.size), by rw [natsV_snoc]; simpa using hown, Apt.kept (h.r8.alloc tmp) hgrow h.apt, fun g0 hg0 hn => ?_⟩
  obtain rfl : g = g0 := by simpa [Value.ownBlock] using hg0
  rcases hg with hg | hg
  · exact h.apt g hg hn
  · have := (h.r8.lt g hn).2
    omega
theorem MgI.push8 {B : Nat} {w1 wr w2 : World} {L M : List Nat} {v7 v8 : Value} {g cap x : Nat} {tmp : Obj} (h : MgI B w1 L M v7 v8 wr)
    (hown : w2.ownsRow B 3 1 (.slice (some ⟨g, 0, none⟩) (M.length + 1) cap) (M.length + 1) (natsV M ++ [natI x])) (hgrow : (wr.alloc tmp).grownBy w2 v8.ownBlock) (hg : v8.ownBlock = some g ∨ g = wr.heap.size + 1)
    (hbl : ∀ B' w0, Below B' w0 (wr.alloc tmp) → B' ≤ B → Below B' w0 w2) : MgI B w1 L (M ++ [x]) v7 (.slice (some ⟨g, 0, none⟩) (M.length + 1) cap) w2 := by
  refine ⟨hbl _ _ (h.bel.alloc h.hB _) (Nat.le_refl _), Nat.le_trans h.hB (Nat.le_trans (by simp) hgrow.size), Apt.kept (h.r7.alloc tmp) hgrow h.apt.symm, by rw [natsV_snoc]; simpa using hown, fun g0 hg0 hn => ?_⟩
  obtain rfl : g = g0 := by simpa [Value.ownBlock] using hn
  rcases hg with hg | hg
  · exact h.apt g hg0 hg
  · have := (h.r7.lt g hg0).2
    omega
theorem check_sigs {G : List TyD} (h : (checkR G).2 = 0) : ∀ t ∈ G, ∀ m ∈ t.meths, m.args.length ≤ 1000 ∧ m.raises.length ≤ 1000 := by
  unfold checkR at h
  split at h
  · simp at h
  · rename_i h4
    split at h
    · simp at h
    · rename_i hn
      have hall := firstNo_all (p := tyB G) (l := G) (by
        rcases firstNo_ge (tyB G) G with h1 | h1
        · exact h1
        · exact absurd h1 hn)
      intro t ht m hm
      have := (tyB_refs (hall t ht)).meths m hm
      unfold sigB at this
      simp at this
      omega
set_option maxRecDepth 100000 in
set_option maxHeartbeats 1000000 in
theorem merge_any (gv : Value) (G : List TyD) (W : World) (hG0 : GrAt W gv G) (hz : GrZ G) :
    Calls Tryz.prog 34 #[gv] W fun e w' => ∃ v m, e = .returned (.tuple #[v, m, .int .i64 (checkedR G [])]) ∧ Below W.heap.size W w' ∧ (if checkedR G [] = 0 then (∃ es, es.map Ent.t = mergeT G ∧ GrOwn W.heap.size w' v es) ∧ w'.ownsRow W.heap.size 3 1 m G.length (natsV (mergeL G).2) else v = .slice none 0 0 ∧ m = .slice none 0 0) := by
  obtain ⟨o, cap, rfl⟩ := hG0.form
  have HC := hide (checked_any _ G W hG0 hz (.slice none 0 0) [] .none')
  by_cases h0 : checkedR G [] = 0
  · obtain ⟨h1, h2, h3⟩ := checked_fit hz h0
    have HK := hide (fun (w1 : World) (h : Below W.heap.size W w1) => classes_any _ G w1 (hG0.below h) h1 h2 h3)
    have hsg := check_sigs (checkedR_ok h0).1
    rw [h0] at HC ⊢
    simp only [↓reduceIte]
    go_enter Tryz.func34, Tryz.ntmps34
    go_wp2_with (first | (go_at_call 57; refine (unhide HC).mono ?_; clear HC; rintro e w1 ⟨rfl, hb1⟩) | (go_at_call 64; refine (unhide HK w1 hb1).mono ?_; clear HK; rintro e w3 ⟨v3, rfl, hr3, hb3⟩; obtain ⟨o3, c3, rfl⟩ := row_form hr3))
    have hb13 := hb1.trans (hb3.mono hb1.size)
    have hI0 : MgI w3.heap.size w3 (mergeS (clF G) 0).1 (mergeS (clF G) 0).2 (.slice none 0 0) (.slice none 0 0) w3 := ⟨Below.refl _ _, Nat.le_refl _, World.ownsRow_nil _ _ _ _, World.ownsRow_nil _ _ _ _, fun g h => by simp [Value.ownBlock] at h⟩
    go_loopw [7, 8, 20] (fun v7 v8 i wr => ∃ k : Nat, k ≤ G.length ∧ i = .int .i64 k ∧ MgI w3.heap.size w3 (mergeS (clF G) k).1 (mergeS (clF G) k).2 v7 v8 wr) (fun _ _ i _ => G.length - (intOf i).toNat)
    case atStart => exact ⟨0, Nat.zero_le _, rfl, hI0⟩
    case round =>
      clear hI0
      obtain ⟨k, hk, rfl, hI⟩ := hrel
      obtain ⟨hl1, hl2, hl3⟩ := mergeS_len (clF G) k
      obtain ⟨o7, c7, rfl⟩ := row_form hI.r7
      obtain ⟨o8, c8, rfl⟩ := row_form hI.r8
      by_cases hlt : k < G.length
      · have hlt' : (k : Int) < G.length := by omega
        obtain ⟨g3, rfl⟩ := row_some hr3 (by omega)
        have hcc := Holds.below hI.bel _ _ (classes_cell hr3 k hlt)
        have hle := clF_le G k hlt
        have HS := Lib.hid (show mergeS (clF G) (k + 1) = if clF G k = k then ((mergeS (clF G) k).1 ++ [k], (mergeS (clF G) k).2 ++ [(mergeS (clF G) k).1.length]) else ((mergeS (clF G) k).1, (mergeS (clF G) k).2 ++ [(mergeS (clF G) k).2.getD (clF G k) 0]) from rfl)
        generalize clF G k = ck at hcc hle HS
        generalize (mergeS (clF G) k).1 = L at hI hl2 hl3 HS ⊢
        generalize (mergeS (clF G) k).2 = M at hI hl1 HS ⊢
        subst hl1
        have hN := hI.hB
        by_cases hck : ck = M.length
        · subst hck
          have HS2 := HS.out
          rw [if_pos rfl] at HS2
          have HS3 := Lib.hid HS2
          clear HS HS2
          go_wp2_with (first | (at_builtin; refine app_lies _ _ 37 3 (.int .i64 0) 8 info3 Tryz.underlying37 rfl (by decide) rfl rfl w3.heap.size _ (natsV L) rfl (by rw [natsV_len]; exact hI.r7.alloc _) _ (natI M.length) rfl ?c1 rfl (by rw [natsV_len]; omega) ?c2 ?_))
          case c1 => exact (Blk.new wr [natI M.length] 3).cell 0
          case c2 => simp; omega
          intro g cap2 w4 hown' hgrow hg hbl
          rw [natsV_len] at hown' ⊢
          have hI2 := hI.push7 hown' hgrow hg hbl
          have hN2 := hI2.hB
          clear hown' hgrow hg hbl hI
          have hsub : ((L.length : Int) + 1 - 1) = (L.length : Int) := by omega
          go_wp2_with (first | (at_builtin; refine app_lies _ _ 37 3 (.int .i64 0) 8 info3 Tryz.underlying37 rfl (by decide) rfl rfl w3.heap.size _ (natsV M) rfl (by rw [natsV_len]; exact hI2.r8.alloc _) _ (natI L.length) rfl ?c1 rfl (by rw [natsV_len]; omega) ?c2 ?_))
          case c1 => exact (Blk.new w4 [natI L.length] 3).cell 0
          case c2 => simp; omega
          intro g2 cap3 w5 hown' hgrow hg hbl
          rw [natsV_len] at hown' ⊢
          have hI3 := hI2.push8 hown' hgrow hg hbl
          clear hown' hgrow hg hbl hI2
          go_wp2
          go_roundw
          case rel => exact ⟨M.length + 1, by omega, by go_num, by rw [HS3.out]; exact hI3⟩
          case measure => simp [intOf]; omega
        · have HS2 := HS.out
          rw [if_neg hck] at HS2
          have hck2 : ck < M.length := by omega
          have hck' : (ck : Int) < M.length := by omega
          have hckn : ((ck : Int) == M.length) = false := by simp; omega
          obtain ⟨g8, rfl⟩ := row_some hI.r8 (by omega)
          obtain ⟨x, hx⟩ : ∃ x, M.getD ck 0 = x := ⟨_, rfl⟩
          have hcx : wr.cell? ⟨g8, ck, none⟩ = some (.int .i64 x) := by
            rw [Row1.cells hI.r8 ck hck2, ← hx]
            unfold natsV
            rw [List.getElem?_map, List.getElem?_eq_getElem hck2, List.getD_eq_getElem?_getD, List.getElem?_eq_getElem hck2]; rfl
          rw [hx] at HS2
          have HS3 := Lib.hid HS2
          clear HS HS2
          go_wp2_with (first | (at_builtin; refine app_lies _ _ 37 3 (.int .i64 0) 8 info3 Tryz.underlying37 rfl (by decide) rfl rfl w3.heap.size _ (natsV M) rfl (by rw [natsV_len]; exact hI.r8.alloc _) _ (natI x) rfl ?c1 rfl (by rw [natsV_len]; omega) ?c2 ?_))
          case c1 => exact (Blk.new wr [natI x] 3).cell 0
          case c2 => simp; omega
          intro g cap2 w4 hown' hgrow hg hbl
          rw [natsV_len] at hown' ⊢
          have hI2 := hI.push8 hown' hgrow hg hbl
          clear hown' hgrow hg hbl hI
          go_wp2
          go_roundw
          case rel => exact ⟨M.length + 1, by omega, by go_num, by rw [HS3.out]; exact hI2⟩
          case measure => simp [intOf]; omega
      · obtain rfl : k = G.length := by omega
        have hfit := hz.tys
        have hB3 := hb13.trans (hI.bel.mono hb13.size)
        generalize hmm : mergeS (clF G) G.length = P at hI hl1 hl2 hl3 ⊢
        have hML : mergeL G = P := hmm
        clear hmm
        have HP := hide (picked_any o cap G (P.1.map fun i => G.getD i default) P.1 (P.2.map Int.ofNat) (.slice o7 P.1.length c7) (.slice o8 P.2.length c8) wr (hG0.below hB3) (row_nats hI.r7) (row_nats hI.r8) (by omega) (by simp)
          (fun j hj => ⟨hl3 _ (List.getElem_mem hj), by
            have := hl3 _ (List.getElem_mem hj)
            simp [hj, List.getD_eq_getElem?_getD, this]⟩)
          (fun t ht => by
            obtain ⟨_, a, b, c, _⟩ := hfit t ht
            exact ⟨by omega, by omega, by omega, hsg t ht⟩)
          (fun t ht => by
            obtain ⟨i, hi, rfl⟩ := List.mem_map.1 ht
            have hi' := hl3 i hi
            have hm : G.getD i default ∈ G := by
              rw [List.getD_eq_getElem?_getD, List.getElem?_eq_getElem hi']; exact List.getElem_mem hi'
            intro x hx
            have := h3 _ hm x hx
            rw [List.length_map, hl1]; exact this))
        have hr8 := hI.r8
        have hT : (List.map (fun i => G.getD i default) P.1).map (mapTy (toF (P.2.map Int.ofNat))) = mergeT G := by unfold mergeT; rw [List.map_map, hML]; rfl
        rw [hT] at HP
        have hsz := hB3.size
        have hw3 := hb13.size
        have HML := Lib.hid hML
        clear hML
        obtain ⟨L, M⟩ := P
        simp only at hr8 HP hl1 hl2 ⊢
        rw [hl1] at HP hr8
        clear hfit h1 h2 h3 hsg hz hl3 hT hI hG0
        go_wp2_with (first | (go_at_call 70; refine (unhide HP).mono ?_; clear HP; rintro e w6 ⟨v, es, rfl, he, hO, hb6⟩))
        go_ret3
        refine ⟨_, _, rfl, hB3.trans (hb6.mono hB3.size), ⟨es, he, ?_⟩, ?_⟩
        · exact ⟨Row.mono hO.row hsz, fun e he => by
            obtain ⟨S, E, a, b, c, d⟩ := hO.far e he
            exact ⟨S, E, by omega, b, c, d⟩⟩
        · rw [HML.out]
          exact Row.mono (Row.below hr8 hb6) hw3
  · simp only [if_neg h0]
    clear hG0 hz
    generalize checkedR G [] = ck at h0 HC ⊢
    go_enter Tryz.func34, Tryz.ntmps34
    go_wp2_with (first | (go_at_call 57; refine (unhide HC).mono ?_; clear HC; rintro e w1 ⟨rfl, hb1⟩))
    go_ret3
    exact ⟨_, _, rfl, hb1, rfl, rfl⟩
end Go.Proofs.YteaokkaidcbdlaaGreatDoor

namespace Go.Proofs.YteaokkaidcbdlaaGreatDoor
open Go Go.RowKit Go.Shelf
attribute [local go_sem] Oper.semAt_some
theorem num127 {W : World} {b : Nat} {o : Option Addr} {c : Nat} {tt : List Int} (hb : Boxed W b 37 (.slice o tt.length c)) (h : SliceOf 1 (IntAt W) (.slice o tt.length c) tt) {x : Int} (h0 : 0 ≤ x) (h1 : x < tt.length) :
    Calls Tryz.prog 127 #[.int .i64 x, .pointer (some ⟨b, 0, none⟩)] W fun e w' => e = .returned (.int .i64 (toF tt x)) ∧ w' = W := by
  obtain ⟨i, rfl⟩ := Int.eq_ofNat_of_zero_le h0
  have hi : i < tt.length := by omega
  obtain ⟨-, -, -, hat⟩ := h.at
  obtain ⟨b', off, rfl, hc⟩ := hat i tt[i] (List.getElem?_eq_getElem hi)
  have hv : toF tt (i : Int) = tt[i] := by unfold toF; simp [List.getD_eq_getElem?_getD, hi]
  rw [hv]
  generalize tt[i] = y at hc ⊢
  unfold IntAt at hc
  rw [Nat.mul_one] at hc
  have hbc := hb.cell
  clear hat
  go_enter Tryz.func127, Tryz.ntmps127
  go_wp2
  go_ret
  exact ⟨rfl, rfl⟩
def numN (R : List Nat) (c : Nat) : Nat := if c ∈ R then R.idxOf c else 0
theorem numN_look {R : List Nat} (hn : R.Nodup) (c : Nat) : (lookA (numA R) c).getD (natI 0) = natI (numN R c) := by
  unfold numN
  split
  · rename_i h
    have hi := List.idxOf_lt_length_iff.2 h
    have := lookA_num hn hi
    rw [List.getElem_idxOf hi] at this
    rw [this]; rfl
  · rename_i h
    rw [lookA_none (by rw [numA_keys]; exact h)]; rfl
def numR (G : List TyD) (a : Nat) : List Nat := reachL (clF G) G a
def numTo (G : List TyD) (a : Nat) : List Nat := (classesL G).map (numN (numR G a))
def numT (G : List TyD) (a : Nat) : List TyD := (numR G a).map fun i => mapTy (toF ((numTo G a).map Int.ofNat)) (G.getD i default)
theorem toF_cl (G : List TyD) {x : Nat} (hx : x < G.length) : toF ((classesL G).map Int.ofNat) x = clF G x := by
  have : x < (classesL G).length := by rw [classesL_len]; exact hx
  unfold toF clF
  simp [List.getD_eq_getElem?_getD, this]
set_option maxRecDepth 100000 in
set_option maxHeartbeats 2000000 in
theorem numbered_any (o : Option Addr) (cap : Nat) (G : List TyD) (a : Nat) (W : World) (hG : GrAt W (.slice o G.length cap) G) (hf : Fit G) (ha : a < G.length)
    (hb : ∀ t ∈ G, t.parts.length ≤ 1000 ∧ t.meths.length ≤ 1000 ∧ t.overs.length ≤ 1000 ∧ ∀ m ∈ t.meths, m.args.length ≤ 1000 ∧ m.raises.length ≤ 1000) :
    Calls Tryz.prog 81 #[.slice o G.length cap, .int .i64 a] W fun e w' => ∃ v es, e = .returned v ∧ es.map Ent.t = numT G a ∧ GrOwn W.heap.size w' v es ∧ Below W.heap.size W w' := by
  obtain ⟨h1, h2, h3⟩ := hf
  have HK := hide (classes_any _ G W hG h1 h2 h3)
  go_enter Tryz.func81, Tryz.ntmps81
  go_wp2_with (first | (go_at_call 64; refine (unhide HK).mono ?_; clear HK; rintro e w1 ⟨v1, rfl, hr1, hb1⟩; obtain ⟨o1, c1, rfl⟩ := row_form hr1))
  have hcl : (classesL G).length = G.length := classesL_len G
  have hcm : ((classesL G).map Int.ofNat).length = G.length := by rw [List.length_map]; exact hcl
  have hb12 : Below w1.heap.size w1 (w1.alloc (.cells #[.slice o1 G.length c1] 37)) := (Below.refl _ _).alloc (Nat.le_refl _) _
  have bx := Boxed.new w1 37 (.slice o1 G.length c1)
  generalize w1.alloc (.cells #[.slice o1 G.length c1] 37) = w2 at hb12 bx ⊢
  have hb02 := hb1.trans (hb12.mono hb1.size)
  have hr2 := Row.below hr1 hb12
  have hsl2 : SliceOf 1 (IntAt w2) (.slice o1 ((classesL G).map Int.ofNat).length c1) ((classesL G).map Int.ofNat) := by
    rw [hcm]
    refine row_nats (base := W.heap.size) ?_
    rw [hcl]; exact hr2
  refine (reachedFrom_any o cap G a 127 #[.pointer (some ⟨w1.heap.size, 0, none⟩)] (clF G) w2 (hG.below hb02) h1 h3 ha (fun x hx => Nat.lt_of_le_of_lt (clF_le G x hx) hx) (fun W' hbW x hx => by
    have hx' : x < G.length := hx
    rw [← toF_cl G hx']
    exact num127 (by rw [hcm]; exact (hbW.block _ bx.lt).trans bx) (hsl2.mono fun _ _ _ _ => IntAt.go (.below hbW)) (by omega) (by rw [hcm]; omega)) (enters_of Tryz.func127 (by kernel_rfl) rfl)).mono ?_
  rintro e w4 ⟨vR, mbk, rfl, hrR, hMN, hmk, hRI, hb24⟩
  have hNR := Lib.hid (show reachL (clF G) G a = numR G a from rfl)
  rw [hNR.out] at hrR hMN hRI
  obtain ⟨oR, cR, rfl⟩ := row_form hrR
  have hRl := hRI.len
  have hr4 := Row.below hr2 hb24
  have hx4 : Boxed w4 w1.heap.size 37 _ := (hb24.block _ bx.lt).trans bx
  have hb04 := hb02.trans (hb24.mono hb02.size)
  have hc4 := hx4.cell
  have hNT := Lib.hid (show (classesL G).map (numN (numR G a)) = numTo G a from rfl)
  have hNU := Lib.hid (show numT G a = (numR G a).map fun i => mapTy (toF ((numTo G a).map Int.ofNat)) (G.getD i default) from rfl)
  generalize numR G a = R at hrR hMN hRI hRl hNT hNU ⊢
  go_wp2
  clear hb12 bx hr1 hr2 hsl2 hx4 hc4 hb02
  go_loopw [8, 22] (fun v i wr => ∃ k : Nat, k ≤ G.length ∧ i = .int .i64 k ∧ Below w4.heap.size w4 wr ∧ wr.ownsRow w4.heap.size 3 1 v k (natsV (((classesL G).take k).map (numN R)))) (fun _ i _ => G.length - (intOf i).toNat)
  case atStart => exact ⟨0, Nat.zero_le _, rfl, Below.refl _ _, World.ownsRow_nil _ _ _ _⟩
  case round =>
    obtain ⟨k, hk, rfl, hbw, hrow⟩ := hrel
    obtain ⟨o8, c8, rfl⟩ := row_form hrow
    by_cases hlt : k < G.length
    · have hlt' : (k : Int) < G.length := by omega
      obtain ⟨g1, rfl⟩ := row_some hr4 (by omega)
      have hkc : k < (classesL G).length := by omega
      have hcc : wr.cell? ⟨g1, k, none⟩ = some (.int .i64 (clF G k)) := Holds.below hbw _ _ (classes_cell hr4 k hlt)
      have hcn : clF G k < G.length := Nat.lt_of_le_of_lt (clF_le G k hlt) hlt
      have hck : (classesL G)[k] = clF G k := by unfold clF; simp [List.getD_eq_getElem?_getD, hkc]
      have hMN2 : MapN wr mbk R := hMN.below hbw hMN.lt
      obtain ⟨kl, hkl⟩ := key_nat (n := clF G k) (by omega)
      have hlook := hMN2.lookup law3 natI_inj' Tryz.underlying95 (Tryz.zeroValue3 wr) false (k := clF G k) hkl
      simp only [Bool.false_eq_true, if_false] at hlook
      rw [show (Value.int IntKind.i64 0) = natI 0 from rfl, numN_look hRI.nodup] at hlook
      unfold natI at hlook
      have hsn : ((classesL G).take (k + 1)).map (numN R) = ((classesL G).take k).map (numN R) ++ [numN R (clF G k)] := by
        rw [List.take_succ_eq_append_getElem hkc, List.map_append, hck]; rfl
      have hlk : (((classesL G).take k).map (numN R)).length = k := by simp; omega
      have HSN := Lib.hid hsn
      generalize numN R (clF G k) = nk at hlook HSN
      generalize ((classesL G).take k).map (numN R) = M at hrow hlk HSN
      generalize clF G k = ck at hcc hcn hlook
      have hN := hbw.size
      subst hlk
      clear hsn hck hkl hMN2
      go_wp2_with (first | (at_builtin; refine app_lies _ _ 37 3 (.int .i64 0) 8 info3 Tryz.underlying37 rfl (by decide) rfl rfl w4.heap.size _ (natsV M) rfl (by rw [natsV_len]; exact hrow.alloc _) _ (natI nk) rfl ?c1 rfl (by rw [natsV_len]; omega) ?c2 ?_))
      case c1 => exact (Blk.new wr [natI nk] 3).cell 0
      case c2 => simp; omega
      intro g cap2 w5 hown' hgrow hg hbl
      rw [natsV_len] at hown' ⊢
      have hb5 := hbl _ _ (hbw.alloc hN (.cells #[natI nk] 3)) (Nat.le_refl _)
      go_wp2
      go_roundw
      case rel => exact ⟨M.length + 1, by omega, by go_num, hb5, by rw [HSN.out, natsV_snoc]; exact hown'⟩
      case measure => simp [intOf]; omega
    · obtain rfl : k = G.length := by omega
      rw [show (classesL G).take G.length = classesL G by rw [← hcl, List.take_length], hNT.out] at hrow
      have hTl : (numTo G a).length = G.length := by unfold numTo; rw [List.length_map]; exact hcl
      have hB3 := hb04.trans (hbw.mono hb04.size)
      have HP := hide (picked_any o cap G (R.map fun i => G.getD i default) R ((numTo G a).map Int.ofNat) (.slice oR R.length cR) (.slice o8 G.length c8) wr (hG.below hB3) (row_nats (Row.below hrR hbw)) (by
          have := row_nats (v := .slice o8 G.length c8) (l := numTo G a) (base := w4.heap.size) (w := wr) (by rw [hTl]; exact hrow)
          exact this) (by omega) (by simp)
        (fun j hj => ⟨hRI.bnd _ (List.getElem_mem hj), by
          have := hRI.bnd _ (List.getElem_mem hj)
          simp [hj, List.getD_eq_getElem?_getD, this]⟩) hb
        (fun t ht => by
          obtain ⟨i, hi, rfl⟩ := List.mem_map.1 ht
          have hi' := hRI.bnd i hi
          have hm : G.getD i default ∈ G := by
            rw [List.getD_eq_getElem?_getD, List.getElem?_eq_getElem hi']; exact List.getElem_mem hi'
          intro x hx
          have := h3 _ hm x hx
          rw [List.length_map, hTl]; exact this))
      have hT : (List.map (fun i => G.getD i default) R).map (mapTy (toF ((numTo G a).map Int.ofNat))) = numT G a := by rw [hNU.out, List.map_map]; rfl
      rw [hT] at HP
      have hsz := hB3.size
      clear hT hNT hNU hRI hMN hrow hr4 hbw hb
      go_wp2_with (first | (go_at_call 70; refine (unhide HP).mono ?_; clear HP; rintro e w6 ⟨v, es, rfl, he, hO, hb6⟩))
      go_ret
      refine ⟨_, es, rfl, he, ⟨Row.mono hO.row hsz, fun e he => ?_⟩, hB3.trans (hb6.mono hB3.size)⟩
      obtain ⟨S, E, a, b, c, d⟩ := hO.far e he
      exact ⟨S, E, by omega, b, c, d⟩
end Go.Proofs.YteaokkaidcbdlaaGreatDoor

