/- Part 44 of 53: the texts Xd, one behind the other. -/
import Derived.Test.YteaokkaidcbdlaaGreatDoorM36
import Derived.Test.YteaokkaidcbdlaaGreatDoorM43
namespace Go.Proofs.YteaokkaidcbdlaaGreatDoor
open Go Go.RowKit Go.Shelf
theorem meths_no {n : Nat} {t : TyD} (h : methsB n t = false) : (methsB n t && oversB t) = false := by rw [h]; rfl
set_option maxRecDepth 100000 in
set_option maxHeartbeats 16000000 in
theorem refMethods_any (go : Option Addr) (n gc : Nat) (t : TyD) (vp vm vo : Value) (W : World) (hl : TyL W vp vm vo t) (hz : TyZ t) :
    Calls Tryz.prog 98 #[.slice go n gc, tyVal t vp vm vo] W fun e w' => e = .returned (.bool (methsB n t && oversB t)) ∧ Below W.heap.size W w' := by
  obtain ⟨op, cp, rfl⟩ := hl.parts.form
  obtain ⟨om, cm, rfl⟩ := hl.meths.form
  obtain ⟨oo, co, rfl⟩ := hl.overs.form
  obtain ⟨NP, hNP⟩ : ∃ NP, t.parts.length = NP := ⟨_, rfl⟩
  obtain ⟨NM, hNM⟩ : ∃ NM, t.meths.length = NM := ⟨_, rfl⟩
  obtain ⟨NO, hNO⟩ : ∃ NO, t.overs.length = NO := ⟨_, rfl⟩
  unfold tyVal
  rw [hNP, hNM, hNO]
  have hMs := hl.meths
  have hOs := hl.overs
  rw [hNM] at hMs
  rw [hNO] at hOs
  obtain ⟨-, hm1, hm2, -⟩ := hMs.at
  obtain ⟨-, ho1, ho2, -⟩ := hOs.at
  have hM63 : NM ≤ 9223372036854775807 := by unfold maxLen at hm1; omega
  have hO63 : NO ≤ 9223372036854775807 := by unfold maxLen at ho1; omega
  have HNM := Lib.hid hNM
  have HNO := Lib.hid hNO
  clear hNP hNM hNO hl hm1 hm2 ho1 ho2
  have bA := Blk.new W [.int .u8 t.kind, .int .i64 t.low, .int .i64 t.high, .bool t.branded, .string t.brand, .string t.opq, .int .i64 t.super, .slice op NP cp, .slice om NM cm, .slice oo NO co] 62
  have lA := (Below.refl W.heap.size W).alloc (Nat.le_refl _) (.cells #[.int .u8 t.kind, .int .i64 t.low, .int .i64 t.high, .bool t.branded, .string t.brand, .string t.opq, .int .i64 t.super, .slice op NP cp, .slice om NM cm, .slice oo NO co] 62)
  change Blk (W.alloc (.cells #[.int .u8 t.kind, .int .i64 t.low, .int .i64 t.high, .bool t.branded, .string t.brand, .string t.opq, .int .i64 t.super, .slice op NP cp, .slice om NM cm, .slice oo NO co] 62)) _ _ _ at bA
  go_enter Tryz.func98, Tryz.ntmps98
  go_wp2
  generalize W.alloc (.cells #[.int .u8 t.kind, .int .i64 t.low, .int .i64 t.high, .bool t.branded, .string t.brand, .string t.opq, .int .i64 t.super, .slice op NP cp, .slice om NM cm, .slice oo NO co] 62) = A1 at bA lA ⊢
  have HM := hide (hMs.mono fun _ _ _ _ => MethAt.go (Holds.below lA))
  have HO := hide (hOs.mono fun _ _ _ _ => OverAt.go (Holds.below lA))
  have b8 : A1.cell? ⟨W.heap.size, 8, none⟩ = some (.slice om NM cm) := bA.cell 8
  have b9 : A1.cell? ⟨W.heap.size, 9, none⟩ = some (.slice oo NO co) := bA.cell 9
  have HB8 := hide b8
  clear bA hMs hOs
  have LA := hide lA
  clear lA
  generalize hbk : W.heap.size = bk at b8 b9 HB8
  go_loopg [5] NM (fun g i wr => ∃ k : Nat, k ≤ NM ∧ g = NM - k ∧ i = .int .i64 k ∧ Below A1.heap.size A1 wr ∧ Hid (namedFrom [] ((t.meths.take k).map (·.name)) = true ∧ (t.meths.take k).all (methB n) = true))
  case atStart => exact ⟨0, Nat.zero_le _, rfl, rfl, Below.refl _ _, Lib.hid ⟨rfl, rfl⟩⟩
  case round =>
   obtain ⟨k, hk, hgk, rfl, hbw, HT⟩ := hrel
   have c8 := Holds.below hbw _ _ b8
   have c9 := Holds.below hbw _ _ b9
   have LW := hide (fun w' (h : Below A1.heap.size A1 w') => (unhide LA).trans (h.mono (unhide LA).size))
   by_cases hlt : k < NM
   ·have hlt1 : k < t.meths.length := by rw [HNM.out]; exact hlt
    obtain ⟨-, -, -, hat⟩ := (unhide HM).at
    obtain ⟨b, off, rfl, va, vr, hv, m0, m1, m2, m3, m4⟩ := hat k t.meths[k] (List.getElem?_eq_getElem hlt1)
    have hzk := hz.meths _ (List.getElem_mem hlt1)
    obtain ⟨oa, ca, rfl⟩ := hv.args.form
    obtain ⟨orr, cr, rfl⟩ := hv.raises.form
    have HBAD := fun (h : methB n t.meths[k] = false) => Lib.hid (show (methsB n t && oversB t) = false by
     apply meths_no
     unfold methsB; rw [show t.meths.all (methB n) = false from List.all_eq_false.2 ⟨_, List.getElem_mem hlt1, by simp [h]⟩, Bool.and_false])
    have HNN := fun (h : (nameB (bs t.meths[k].name) && !Lib.containsS ((t.meths.take k).map (·.name)) t.meths[k].name) = false) => Lib.hid (show (methsB n t && oversB t) = false by
     apply meths_no
     unfold methsB; rw [named_take (k := k + 1) (f := fun p : MethD => p.name) (by rw [named_next (f := fun p : MethD => p.name) hlt1, h, Bool.and_false])]; rfl)
    have HYY := fun (h1 : nameB (bs t.meths[k].name) = true) (h2 : t.meths[k].name ∉ (t.meths.take k).map (·.name)) (h3 : methB n t.meths[k] = true) =>
     Lib.hid (show namedFrom [] ((t.meths.take (k + 1)).map (·.name)) = true ∧ (t.meths.take (k + 1)).all (methB n) = true by
      refine ⟨by rw [named_next (f := fun p : MethD => p.name) hlt1, HT.out.1, h1, contains_no h2]; rfl, ?_⟩
      rw [all_take _ _ _ hlt1, HT.out.2, h3]; rfl)
    have HMEM := fun (j : Nat) (hj : j < t.meths.length) (hjk : j < k) => mem_take_at (f := fun p : MethD => p.name) hj hjk
    have HMB : methB n t.meths[k] = (sigB n t.meths[k] && ((bs t.meths[k].proc).isEmpty || symB (bs t.meths[k].proc))) := rfl
    generalize t.meths[k] = y at hv m0 m1 m2 m3 m4 hzk HBAD HNN HYY HMB
    obtain ⟨hz1, hz2, hz3⟩ := hzk
    have d0 := Holds.below hbw _ _ m0
    have d1 := Holds.below hbw _ _ m1
    have d2 := Holds.below hbw _ _ m2
    have d3 := Holds.below hbw _ _ m3
    have d4 := Holds.below hbw _ _ m4
    have hlt' : (k : Int) < NM := by omega
    have hv2 := hide (fun w' (h : Below A1.heap.size A1 w') => hv.go (.below h))
    clear hv m0 m1 m2 m3 m4 HT
    have hbA := Blk.new wr [.string y.name, .slice oa y.args.length ca, .int .i64 y.result, .slice orr y.raises.length cr, .string y.proc] 74
    have hlA := (Below.refl wr.heap.size wr).alloc (Nat.le_refl _) (.cells #[.string y.name, .slice oa y.args.length ca, .int .i64 y.result, .slice orr y.raises.length cr, .string y.proc] 74)
    change Blk (wr.alloc (.cells #[.string y.name, .slice oa y.args.length ca, .int .i64 y.result, .slice orr y.raises.length cr, .string y.proc] 74)) _ _ _ at hbA
    have heE : (y.proc.toList == []) = (bs y.proc).isEmpty := by rw [toList_bs]; cases bs y.proc <;> rfl
    have hneE : (y.proc.toList != []) = !(bs y.proc).isEmpty := by unfold bne; rw [heE]
    have hsy := hide (fun w => (refSymbol_any y.proc hz2 w).mono fun e w' ⟨h1, h2⟩ => (show e = _ ∧ w = w' from ⟨h1, h2.symm⟩))
    have hnm := hide (fun w => refName_any y.name hz1 w)
    generalize (bs y.proc).isEmpty = E at heE hneE HMB
    generalize symB (bs y.proc) = S at hsy HMB
    go_wp2_with fail
    generalize wr.alloc (.cells #[.string y.name, .slice oa y.args.length ca, .int .i64 y.result, .slice orr y.raises.length cr, .string y.proc] 74) = A2 at hbA hlA ⊢
    have hb2 := hbw.trans (hlA.mono hbw.size)
    have hsg := hide (refSig_any go n gc _ _ y A2 (unhide hv2 _ hb2) hz3)
    have f0 : A2.cell? ⟨wr.heap.size, 0, none⟩ = some (.string y.name) := hbA.cell 0
    have f1 : A2.cell? ⟨wr.heap.size, 1, none⟩ = some (.slice oa y.args.length ca) := hbA.cell 1
    have f2 : A2.cell? ⟨wr.heap.size, 2, none⟩ = some (.int .i64 y.result) := hbA.cell 2
    have f3 : A2.cell? ⟨wr.heap.size, 3, none⟩ = some (.slice orr y.raises.length cr) := hbA.cell 3
    have f4 : A2.cell? ⟨wr.heap.size, 4, none⟩ = some (.string y.proc) := hbA.cell 4
    have g8 := Holds.below hlA _ _ c8
    have HLT := hide (fun w' (h : Below A2.heap.size A2 w') => hb2.trans (h.mono hb2.size))
    have LB2 := hide (unhide LW _ hb2)
    have b8A := b8
    have b9A := b9
    clear hbA hlA hb2 hbw c8 c9 d0 d1 d2 d3 d4 hv2 b8 b9
    generalize wr.heap.size = bm at f0 f1 f2 f3 f4 ⊢
    generalize sigB n y = G1 at hsg HMB
    cases hnb : nameB (bs y.name) with
    | false =>
      rw [hnb] at hnm
      have HX := HNN (by rw [hnb]; rfl)
      clear HBAD HNN HYY HMEM HMB hat heE hneE
      with_reducible refine (unhide hnm _).mono ?_
      rintro e w4 ⟨rfl, rfl⟩
      go_wp2
      go_ret
      exact ⟨ret_bool HX.out.symm, unhide LB2⟩
    | true =>
      rw [hnb] at hnm
      have HY3 := fun h => HYY hnb h
      have HNO3 := fun (h : Lib.containsS ((t.meths.take k).map (·.name)) y.name = true) => HNN (by rw [h, Bool.not_true, Bool.and_false])
      clear HNN HYY hnb
      with_reducible refine (unhide hnm _).mono ?_
      rintro e w4 ⟨rfl, rfl⟩
      cases E <;> cases S
      ·have HX := HBAD (by rw [HMB]; simp)
       clear HBAD HY3 HNO3 HMEM HMB hat hsg hnm
       go_wp2_with (go_at_call 22; with_reducible refine (unhide hsy _).mono ?_; rintro e w5 ⟨rfl, rfl⟩)
       go_ret
       exact ⟨ret_bool HX.out.symm, unhide LB2⟩
      all_goals
       cases G1
       ·have HX := HBAD (by rw [HMB]; simp)
        clear HBAD HY3 HNO3 HMEM HMB hat hnm
        go_wp2_with (first | (go_at_call 22; with_reducible refine (unhide hsy _).mono ?_; rintro e w5 ⟨rfl, rfl⟩) | (go_at_call 154; with_reducible refine (unhide hsg).mono ?_; rintro e w6 ⟨rfl, hb6⟩))
        go_ret
        exact ⟨ret_bool HX.out.symm, unhide LW _ (unhide HLT _ hb6)⟩
       ·have HY4 := fun h => HY3 h (by rw [HMB]; simp)
        clear HBAD HY3 HMB hnm
        go_wp2_with (first | (go_at_call 22; with_reducible refine (unhide hsy _).mono ?_; rintro e w5 ⟨rfl, rfl⟩) | (go_at_call 154; with_reducible refine (unhide hsg).mono ?_; rintro e w6 ⟨rfl, hb6⟩))
        have p0 := Holds.below hb6 _ _ f0
        have HB6 := hide hb6
        clear hsg hsy f0 f1 f2 f3 f4 g8
        go_loopg [7] k (fun g i w2 => ∃ j : Nat, j ≤ k ∧ g = k - j ∧ i = .int .i64 j ∧ Below A2.heap.size A2 w2 ∧ Hide (Holds w6 w2) ∧ Hid (y.name ∉ (t.meths.take j).map (·.name)))
        case atStart => exact ⟨0, Nat.zero_le _, rfl, rfl, hb6, hide (Holds.refl _), Lib.hid (by simp)⟩
        case round =>
         obtain ⟨j, hj, hgj, rfl, hbw2, HH, HJ⟩ := hrel
         have q0 := unhide HH _ _ p0
         have HA1 := hide (unhide HLT _ hbw2)
         have q8 := Holds.below (unhide HA1) _ _ b8A
         clear p0 hb6
         by_cases hjlt : j < k
         ·have hjlt1 : j < t.meths.length := by omega
          obtain ⟨b2, off2, he2, va2, vr2, _, e0, -⟩ := hat j t.meths[j] (List.getElem?_eq_getElem hjlt1)
          cases he2
          have e0' := Holds.below (unhide HA1) _ _ e0
          have HEQ := fun (h : t.meths[j].name = y.name) => HNO3 ((Lib.containsS_iff _ _).2 (h ▸ HMEM j hjlt1 hjlt))
          have HNE := fun (h : t.meths[j].name ≠ y.name) => Lib.hid (not_mem_next (f := fun p : MethD => p.name) hjlt1 HJ.out h)
          have hBD := hide (fun nq => below_drewN' hbw2 nq)
          have hLD := hide (fun nq => below_drewN' (unhide LW _ (unhide HA1)) nq)
          generalize t.meths[j] = x at e0 e0' HEQ HNE
          have hjlt' : (j : Int) < k := by omega
          have hjN : (j : Int) < NM := by omega
          clear hat HNO3 HMEM HY4 HJ e0 hbw2
          by_cases hxy : x.name = y.name
          ·have HZ := HEQ hxy
           rw [hxy] at e0'
           clear HEQ HNE hxy
           generalize y.name = s at q0 e0'
           go_wp2
           go_quiet (fail)
           go_wp2
           go_ret
           exact ⟨ret_bool HZ.out.symm, unhide hLD _⟩
          ·have HZ := HNE hxy
           have hne : (x.name.toList == y.name.toList) = false := neS hxy
           clear HEQ HNE hxy
           go_wp2
           go_quiet (fail)
           go_wp2
           go_roundg (k - (j + 1))
           case measure => omega
           case rel => exact ⟨j + 1, by omega, rfl, by go_num, unhide hBD nq, hide (fun a v h => unhide HH a v h), HZ⟩
         ·obtain rfl : j = k := by omega
          have HZ := HY4 HJ.out
          clear hat HNO3 HMEM HY4 HJ
          go_wp2
          go_roundg (NM - (j + 1))
          case measure => omega
          case rel => exact ⟨j + 1, by omega, rfl, by go_num, unhide HA1, HZ⟩
   ·have hk2 : k = NM := by omega
    have HMS := Lib.hid (show methsB n t = decide (NM ≤ 8) by
     have h := HT.out
     rw [List.take_of_length_le (by have := HNM.out; omega)] at h
     unfold methsB namedB
     rw [h.1, h.2, List.length_map, HNM.out, Bool.and_true, Bool.and_true])
    have hlt' : ¬ (k : Int) < NM := by omega
    have LW0 := hide hbw
    clear HT hk2 hlt hk hgk hbw HM b8 c9
    go_wp2
    go_loopg [8] NO (fun g i w2 => ∃ q : Nat, q ≤ NO ∧ g = NO - q ∧ i = .int .i64 q ∧ Below A1.heap.size A1 w2 ∧ Hid (namedFrom [] ((t.overs.take q).map (·.name)) = true ∧ (t.overs.take q).all (fun p => symB (bs p.proc)) = true))
    case atStart => exact ⟨0, Nat.zero_le _, rfl, rfl, unhide LW0, Lib.hid ⟨rfl, rfl⟩⟩
    case round =>
     obtain ⟨q, hq, hgq, rfl, hbw, HT⟩ := hrel
     rename_i w2 _ _ _ _ _
     have c8 := Holds.below hbw _ _ (show A1.cell? ⟨bk, 8, none⟩ = some (.slice om NM cm) from unhide HB8)
     have c9 := Holds.below hbw _ _ b9
     have LX := hide (unhide LW _ hbw)
     by_cases hqlt : q < NO
     ·have hlt1 : q < t.overs.length := by rw [HNO.out]; exact hqlt
      obtain ⟨-, -, -, hat⟩ := (unhide HO).at
      obtain ⟨b, off, rfl, m0, m1⟩ := hat q t.overs[q] (List.getElem?_eq_getElem hlt1)
      obtain ⟨hz1, hz2⟩ := hz.overs _ (List.getElem_mem hlt1)
      have HBAD := fun (h : symB (bs t.overs[q].proc) = false) => Lib.hid (show (methsB n t && oversB t) = false by
       rw [show oversB t = false by unfold oversB; rw [show t.overs.all (fun p => symB (bs p.proc)) = false from List.all_eq_false.2 ⟨_, List.getElem_mem hlt1, by simp [h]⟩, Bool.and_false], Bool.and_false])
      have HNN := fun (h : (nameB (bs t.overs[q].name) && !Lib.containsS ((t.overs.take q).map (·.name)) t.overs[q].name) = false) => Lib.hid (show (methsB n t && oversB t) = false by
       rw [show oversB t = false by unfold oversB; rw [named_take (k := q + 1) (f := fun p : OverD => p.name) (by rw [named_next (f := fun p : OverD => p.name) hlt1, h, Bool.and_false])]; rfl, Bool.and_false])
      have HYY := fun (h1 : nameB (bs t.overs[q].name) = true) (h2 : t.overs[q].name ∉ (t.overs.take q).map (·.name)) (h3 : symB (bs t.overs[q].proc) = true) =>
       Lib.hid (show namedFrom [] ((t.overs.take (q + 1)).map (·.name)) = true ∧ (t.overs.take (q + 1)).all (fun p => symB (bs p.proc)) = true by
        refine ⟨by rw [named_next (f := fun p : OverD => p.name) hlt1, HT.out.1, h1, contains_no h2]; rfl, ?_⟩
        rw [all_take _ _ _ hlt1, HT.out.2, h3]; rfl)
      have HMEM := fun (j : Nat) (hj : j < t.overs.length) (hjk : j < q) => mem_take_at (f := fun p : OverD => p.name) hj hjk
      generalize t.overs[q] = y at m0 m1 hz1 hz2 HBAD HNN HYY
      have d0 := Holds.below hbw _ _ m0
      have d1 := Holds.below hbw _ _ m1
      have hq' : (q : Int) < NO := by omega
      have hsy := hide (fun w => (refSymbol_any y.proc hz2 w).mono fun e w' ⟨h1, h2⟩ => (show e = _ ∧ w = w' from ⟨h1, h2.symm⟩))
      have hnm := hide (fun w => refName_any y.name hz1 w)
      have HBW := hide hbw
      clear HT m1 hbw
      cases hnb : nameB (bs y.name) with
      | false =>
        rw [hnb] at hnm
        have HX := HNN (by rw [hnb]; rfl)
        clear HBAD HNN HYY HMEM hat m0 hsy
        go_wp2_with (go_at_call 20; with_reducible refine (unhide hnm _).mono ?_; rintro e w4 ⟨rfl, rfl⟩)
        go_ret
        exact ⟨ret_bool HX.out.symm, unhide LX⟩
      | true =>
        rw [hnb] at hnm
        have HY3 := fun h => HYY hnb h
        have HNO3 := fun (h : Lib.containsS ((t.overs.take q).map (·.name)) y.name = true) => HNN (by rw [h, Bool.not_true, Bool.and_false])
        clear HNN HYY hnb
        cases hsb : symB (bs y.proc) with
        | false =>
          rw [hsb] at hsy
          have HX := HBAD hsb
          clear HBAD HY3 HNO3 HMEM hat m0 hsb
          go_wp2_with (first | (go_at_call 20; with_reducible refine (unhide hnm _).mono ?_; rintro e w4 ⟨rfl, rfl⟩) | (go_at_call 22; with_reducible refine (unhide hsy _).mono ?_; rintro e w5 ⟨rfl, rfl⟩))
          go_ret
          exact ⟨ret_bool HX.out.symm, unhide LX⟩
        | true =>
          rw [hsb] at hsy
          have HY4 := fun h => HY3 h hsb
          clear HBAD HY3 hsb
          go_wp2_with (first | (go_at_call 20; with_reducible refine (unhide hnm _).mono ?_; rintro e w4 ⟨rfl, rfl⟩) | (go_at_call 22; with_reducible refine (unhide hsy _).mono ?_; rintro e w5 ⟨rfl, rfl⟩))
          go_loopg [9] q (fun g i w3 => ∃ j : Nat, j ≤ q ∧ g = q - j ∧ i = .int .i64 j ∧ Below A1.heap.size A1 w3 ∧ Hid (y.name ∉ (t.overs.take j).map (·.name)))
          case atStart => exact ⟨0, Nat.zero_le _, rfl, rfl, unhide HBW, Lib.hid (by simp)⟩
          case round =>
           obtain ⟨j, hj, hgj, rfl, hbw2, HJ⟩ := hrel
           have q9 := Holds.below hbw2 _ _ b9
           have p0 := Holds.below hbw2 _ _ m0
           have hBD := hide (fun nq => below_drewN' hbw2 nq)
           have hLD := hide (fun nq => below_drewN' (unhide LW _ hbw2) nq)
           by_cases hjlt : j < q
           ·have hjlt1 : j < t.overs.length := by omega
            obtain ⟨b2, off2, he2, e0, -⟩ := hat j t.overs[j] (List.getElem?_eq_getElem hjlt1)
            cases he2
            have e0' := Holds.below hbw2 _ _ e0
            have HEQ := fun (h : t.overs[j].name = y.name) => HNO3 ((Lib.containsS_iff _ _).2 (h ▸ HMEM j hjlt1 hjlt))
            have HNE := fun (h : t.overs[j].name ≠ y.name) => Lib.hid (not_mem_next (f := fun p : OverD => p.name) hjlt1 HJ.out h)
            generalize t.overs[j] = x at e0 e0' HEQ HNE
            have hjlt' : (j : Int) < q := by omega
            have hjN : (j : Int) < NO := by omega
            clear hat HNO3 HMEM HY4 HJ e0 hbw2 m0 d0 d1
            by_cases hxy : x.name = y.name
            ·have HZ := HEQ hxy
             rw [hxy] at e0'
             clear HEQ HNE hxy
             generalize y.name = s at p0 e0'
             go_wp2
             go_quiet (fail)
             go_wp2
             go_ret
             exact ⟨ret_bool HZ.out.symm, unhide hLD _⟩
            ·have HZ := HNE hxy
             have hne : (x.name.toList == y.name.toList) = false := neS hxy
             clear HEQ HNE hxy
             go_wp2
             go_quiet (fail)
             go_wp2
             go_roundg (q - (j + 1))
             case measure => omega
             case rel => exact ⟨j + 1, by omega, rfl, by go_num, unhide hBD nq, HZ⟩
           ·obtain rfl : j = q := by omega
            have HZ := HY4 HJ.out
            have HBX := hide hbw2
            clear hat HNO3 HMEM HY4 HJ m0 d0 d1
            go_wp2
            go_roundg (NO - (j + 1))
            case measure => omega
            case rel => exact ⟨j + 1, by omega, rfl, by go_num, unhide HBX, HZ⟩
     ·obtain rfl : q = NO := by omega
      have HX := Lib.hid (show (methsB n t && oversB t) = (decide (NM ≤ 8) && decide (q ≤ 8)) by
       have h := HT.out
       rw [List.take_of_length_le (by have := HNO.out; omega)] at h
       rw [HMS.out]
       unfold oversB namedB
       rw [h.1, h.2, List.length_map, HNO.out, Bool.and_true, Bool.and_true])
      clear HT hbw
      by_cases h8 : NM ≤ 8
      ·have HX2 := Lib.hid (show (methsB n t && oversB t) = decide ((q : Int) ≤ 8) by rw [HX.out, decide_eq_true h8, Bool.true_and]; congr 1; simp; omega)
       have h8' : (NM : Int) ≤ 8 := by omega
       clear HX h8
       go_wp2
       go_ret
       first
        | exact ⟨ret_bool HX2.out.symm, unhide LX⟩
        | exact ⟨ret_bool HX2.out.symm, by rw [← hbk]; exact unhide LX⟩
      ·have HX2 := Lib.hid (show (methsB n t && oversB t) = false by rw [HX.out, decide_eq_false h8, Bool.false_and])
       have h8' : ¬ (NM : Int) ≤ 8 := by omega
       clear HX h8
       go_wp2
       go_ret
       first
        | exact ⟨ret_bool HX2.out.symm, unhide LX⟩
        | exact ⟨ret_bool HX2.out.symm, by rw [← hbk]; exact unhide LX⟩
end Go.Proofs.YteaokkaidcbdlaaGreatDoor

