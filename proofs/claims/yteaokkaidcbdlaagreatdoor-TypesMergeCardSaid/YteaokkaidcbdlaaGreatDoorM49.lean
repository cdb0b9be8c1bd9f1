/- Part 49 of 53: the texts Ua, one behind the other. -/
import Derived.Test.YteaokkaidcbdlaaGreatDoorM41
import Derived.Test.YteaokkaidcbdlaaGreatDoorM37
import Derived.Test.YteaokkaidcbdlaaGreatDoorM36
import Derived.Test.YteaokkaidcbdlaaGreatDoorM23
import Derived.Test.YteaokkaidcbdlaaGreatDoorM25
namespace Go.Proofs.YteaokkaidcbdlaaGreatDoor
open Go Go.RowKit Go.Shelf
def partE (p q : PartD) : Bool := sameS p.name q.name && decide (p.type = q.type)
def methE (m n : MethD) : Bool := decide (m.result = n.result) && eqF (fun i j : Int => decide (i = j)) m.args n.args
def tyR (a b : TyD) : Bool := agR a b && (decide (a.super = b.super) && (eqF partE a.parts b.parts && eqF methE a.meths b.meths))
theorem agR_parts {a b : TyD} (h : agR a b = true) : a.parts.length = b.parts.length := by
 unfold agR at h
 simp only [Bool.and_eq_true] at h
 exact eqF_same h.2.1
theorem agR_meths {a b : TyD} (h : agR a b = true) : a.meths.length = b.meths.length := by
 unfold agR at h
 simp only [Bool.and_eq_true] at h
 exact eqF_same h.2.2.1
theorem eqF_each {α : Type} {f : α → α → Bool} {l m : List α} (h : eqF f l m = true) {k : Nat} (h1 : k < l.length) (h2 : k < m.length) : f l[k] m[k] = true := by
 unfold eqF at h
 rw [Bool.and_eq_true, List.all_eq_true] at h
 have := h.2 (l[k], m[k]) (List.mem_iff_getElem.2 ⟨k, by rw [List.length_zip]; omega, List.getElem_zip⟩)
 exact this
theorem agR_args {a b : TyD} (h : agR a b = true) {k : Nat} (h1 : k < a.meths.length) (h2 : k < b.meths.length) : (a.meths[k]).args.length = (b.meths[k]).args.length := by
 unfold agR at h
 simp only [Bool.and_eq_true] at h
 have := eqF_each h.2.2.1 h1 h2
 unfold methR at this
 simp only [Bool.and_eq_true, decide_eq_true_eq] at this
 exact this.2.2.1
set_option maxRecDepth 100000 in
set_option maxHeartbeats 16000000 in
theorem refSame_any (vg vh : Value) (G H : List TyD) (W : World) (hG : GrAt W vg G) (hH : GrAt W vh H) :
    Calls Tryz.prog 37 #[vg, vh] W fun e w' => e = .returned (.bool (eqF tyR G H)) ∧ Below W.heap.size W w' := by
  obtain ⟨o, cap, rfl⟩ := hG.form
  obtain ⟨o2, cap2, rfl⟩ := hH.form
  obtain ⟨-, hm, hm2, -⟩ := hG.at
  have h63 : G.length ≤ 9223372036854775807 := by unfold maxLen at hm; omega
  have HCG := hide (fun i (hi : i < G.length) => hG.cells hi)
  have HCH := hide (fun i (hi : i < H.length) => hH.cells hi)
  clear hm hm2 hG hH
  obtain ⟨n, hn⟩ : ∃ n, G.length = n := ⟨_, rfl⟩
  obtain ⟨n2, hn2⟩ : ∃ n2, H.length = n2 := ⟨_, rfl⟩
  have HN := Lib.hid hn
  have HN2 := Lib.hid hn2
  rw [hn] at h63 ⊢
  rw [hn2]
  clear hn hn2
  by_cases hne : n = n2
  ·subst hne
   have HE := Lib.hid (eqF_at (f := tyR) (l := G) (m := H) (by rw [HN.out, HN2.out]))
   go_enter Tryz.func37, Tryz.ntmps37
   go_wp2
   go_loopg [5] n (fun g i wr => ∃ k : Nat, k ≤ n ∧ g = n - k ∧ i = .int .i64 k ∧ Below W.heap.size W wr ∧ Hid (((G.zip H).take k).all (fun x => tyR x.1 x.2) = true))
   case atStart => exact ⟨0, Nat.zero_le _, rfl, rfl, Below.refl _ _, Lib.hid rfl⟩
   case round =>
    obtain ⟨k, hk, hgk, rfl, hbw, HT⟩ := hrel
    by_cases hlt : k < n
    ·have hlt' : (k : Int) < n := by omega
     have h1 : k < G.length := by rw [HN.out]; exact hlt
     have h2 : k < H.length := by rw [HN2.out]; exact hlt
     obtain ⟨b, off, u1, u2, u3, rfl, gl1, hc1⟩ := unhide HCG k h1
     obtain ⟨b2, off2, v1, v2, v3, rfl, gl2, hc2⟩ := unhide HCH k h2
     have HX := fun (h : tyR G[k] H[k] = false) => Lib.hid (show eqF tyR G H = false by rw [HE.out]; exact zip_all_no h1 h2 h)
     have HY := fun (h : tyR G[k] H[k] = true) => Lib.hid (show ((G.zip H).take (k + 1)).all (fun x => tyR x.1 x.2) = true by rw [zip_take_next (f := tyR) h1 h2, HT.out, h]; rfl)
     have hc1' := fun w (h : Below W.heap.size W w) => hc1 w (.below h)
     have hc2' := fun w (h : Below W.heap.size W w) => hc2 w (.below h)
     have GL1 := hide (fun w (h : Below W.heap.size W w) => gl1.go (.below h))
     have GL2 := hide (fun w (h : Below W.heap.size W w) => gl2.go (.below h))
     obtain ⟨xop, xcp, rfl⟩ := gl1.parts.form
     obtain ⟨xom, xcm, rfl⟩ := gl1.meths.form
     obtain ⟨xoo, xco, rfl⟩ := gl1.overs.form
     obtain ⟨yop, ycp, rfl⟩ := gl2.parts.form
     obtain ⟨yom, ycm, rfl⟩ := gl2.meths.form
     obtain ⟨yoo, yco, rfl⟩ := gl2.overs.form
     clear hc1 hc2 gl1 gl2
     generalize G[k] = x at HX HY hc1' GL1
     generalize H[k] = y at HX HY hc2' GL2
     clear HT h1 h2
     have HC1 := hide hc1'
     have HC2 := hide hc2'
     clear hc1' hc2'
     have K1 := unhide HC1 _ hbw
     have a0 := K1 0 _ rfl
     have a1 := K1 1 _ rfl
     have a2 := K1 2 _ rfl
     have a3 := K1 3 _ rfl
     have a4 := K1 4 _ rfl
     have a5 := K1 5 _ rfl
     have a6 := K1 6 _ rfl
     have a7 := K1 7 _ rfl
     have a8 := K1 8 _ rfl
     have a9 := K1 9 _ rfl
     rw [Nat.add_zero] at a0
     clear K1
     go_upto_region 7 with fail
     have lX := (Below.refl wr.heap.size wr).alloc (Nat.le_refl _) (.cells #[.int .u8 x.kind, .int .i64 x.low, .int .i64 x.high, .bool x.branded, .string x.brand, .string x.opq, .int .i64 x.super, .slice xop x.parts.length xcp, .slice xom x.meths.length xcm, .slice xoo x.overs.length xco] 62)
     have bX := Blk.new wr [.int .u8 x.kind, .int .i64 x.low, .int .i64 x.high, .bool x.branded, .string x.brand, .string x.opq, .int .i64 x.super, .slice xop x.parts.length xcp, .slice xom x.meths.length xcm, .slice xoo x.overs.length xco] 62
     change Blk (wr.alloc (.cells #[.int .u8 x.kind, .int .i64 x.low, .int .i64 x.high, .bool x.branded, .string x.brand, .string x.opq, .int .i64 x.super, .slice xop x.parts.length xcp, .slice xom x.meths.length xcm, .slice xoo x.overs.length xco] 62)) _ _ _ at bX
     generalize wr.alloc (.cells #[.int .u8 x.kind, .int .i64 x.low, .int .i64 x.high, .bool x.branded, .string x.brand, .string x.opq, .int .i64 x.super, .slice xop x.parts.length xcp, .slice xom x.meths.length xcm, .slice xoo x.overs.length xco] 62) = A2 at bX lX ⊢
     have hb2 := hbw.trans (lX.mono hbw.size)
     clear a0 a1 a2 a3 a4 a5 a6 a7 a8 a9
     have K2 := unhide HC2 _ hb2
     have c0 := K2 0 _ rfl
     have c1 := K2 1 _ rfl
     have c2 := K2 2 _ rfl
     have c3 := K2 3 _ rfl
     have c4 := K2 4 _ rfl
     have c5 := K2 5 _ rfl
     have c6 := K2 6 _ rfl
     have c7 := K2 7 _ rfl
     have c8 := K2 8 _ rfl
     have c9 := K2 9 _ rfl
     rw [Nat.add_zero] at c0
     clear K2
     go_upto_region 8 with fail
     have lY := (Below.refl A2.heap.size A2).alloc (Nat.le_refl _) (.cells #[.int .u8 y.kind, .int .i64 y.low, .int .i64 y.high, .bool y.branded, .string y.brand, .string y.opq, .int .i64 y.super, .slice yop y.parts.length ycp, .slice yom y.meths.length ycm, .slice yoo y.overs.length yco] 62)
     have bY := Blk.new A2 [.int .u8 y.kind, .int .i64 y.low, .int .i64 y.high, .bool y.branded, .string y.brand, .string y.opq, .int .i64 y.super, .slice yop y.parts.length ycp, .slice yom y.meths.length ycm, .slice yoo y.overs.length yco] 62
     change Blk (A2.alloc (.cells #[.int .u8 y.kind, .int .i64 y.low, .int .i64 y.high, .bool y.branded, .string y.brand, .string y.opq, .int .i64 y.super, .slice yop y.parts.length ycp, .slice yom y.meths.length ycm, .slice yoo y.overs.length yco] 62)) _ _ _ at bY
     have bX2 := bX.alloc (.cells #[.int .u8 y.kind, .int .i64 y.low, .int .i64 y.high, .bool y.branded, .string y.brand, .string y.opq, .int .i64 y.super, .slice yop y.parts.length ycp, .slice yom y.meths.length ycm, .slice yoo y.overs.length yco] 62)
     generalize A2.alloc (.cells #[.int .u8 y.kind, .int .i64 y.low, .int .i64 y.high, .bool y.branded, .string y.brand, .string y.opq, .int .i64 y.super, .slice yop y.parts.length ycp, .slice yom y.meths.length ycm, .slice yoo y.overs.length yco] 62) = A3 at bX2 bY lY ⊢
     have hb3 := hb2.trans (lY.mono hb2.size)
     clear c0 c1 c2 c3 c4 c5 c6 c7 c8 c9
     generalize wr.heap.size = bx at bX2 bX ⊢
     generalize A2.heap.size = by' at bY ⊢
     have HAG := hide (refAgree_any x y _ _ _ _ _ _ A3 (unhide GL1 A3 hb3) (unhide GL2 A3 hb3))
     have BX := hide bX2
     have BY := hide bY
     have LB3 := hide hb3
     have LW := hide (fun w' (h : Below A3.heap.size A3 w') => hb3.trans (h.mono hb3.size))
     have p0 := bX2.cell 0
     have p1 := bX2.cell 1
     have p2 := bX2.cell 2
     have p3 := bX2.cell 3
     have p4 := bX2.cell 4
     have p5 := bX2.cell 5
     have p6 := bX2.cell 6
     have p7 := bX2.cell 7
     have p8 := bX2.cell 8
     have p9 := bX2.cell 9
     have q0 := bY.cell 0
     have q1 := bY.cell 1
     have q2 := bY.cell 2
     have q3 := bY.cell 3
     have q4 := bY.cell 4
     have q5 := bY.cell 5
     have q6 := bY.cell 6
     have q7 := bY.cell 7
     have q8 := bY.cell 8
     have q9 := bY.cell 9
     simp only [List.getElem?_cons_zero, List.getElem?_cons_succ] at p0 p1 p2 p3 p4 p5 p6 p7 p8 p9 q0 q1 q2 q3 q4 q5 q6 q7 q8 q9
     clear bX bX2 bY lX lY hb2 hb3 hbw
     go_wp2_with fail
     refine (unhide HAG).mono ?_
     rintro e A4 ⟨rfl, hb4⟩
     clear HAG p0 p1 p2 p3 p4 p5 p6 p7 p8 p9 q0 q1 q2 q3 q4 q5 q6 q7 q8 q9
     have LW4 := hide (fun w' (h : Below A4.heap.size A4 w') => (unhide LW w' (hb4.trans (h.mono hb4.size))))
     have BX4 := hide (fun w' (h : Below A4.heap.size A4 w') => (unhide BX).below (hb4.trans (h.mono hb4.size)) (unhide BX).lt)
     have BY4 := hide (fun w' (h : Below A4.heap.size A4 w') => (unhide BY).below (hb4.trans (h.mono hb4.size)) (unhide BY).lt)
     obtain ⟨ag, hag⟩ : ∃ ag, agR x y = ag := ⟨_, rfl⟩
     rw [hag]
     have HAGX := Lib.hid hag
     clear hag hb4
     cases ag
     ·have HZ := HX (by unfold tyR; rw [HAGX.out]; rfl)
      clear HX HY
      go_wp2
      go_ret
      exact ⟨ret_bool HZ.out.symm, unhide LW4 _ (Below.refl _ _)⟩
     have px6 := (unhide BX4 A4 (Below.refl _ _)).cell 6
     have py6 := (unhide BY4 A4 (Below.refl _ _)).cell 6
     simp only [List.getElem?_cons_zero, List.getElem?_cons_succ] at px6 py6
     rcases (Decidable.em (x.super = y.super)).symm with hs | hs
     ·have HZ := HX (by unfold tyR; rw [decide_eq_false hs, Bool.false_and, Bool.and_false])
      have hs1 : (x.super == y.super) = false := by simpa using hs
      have hs2 := bne_of hs1
      clear HX HY hs
      go_wp2
      go_ret
      exact ⟨ret_bool HZ.out.symm, unhide LW4 _ (Below.refl _ _)⟩
     have hs1 : (x.super == y.super) = true := by simpa using hs
     have hs2 := bne_of hs1
     have HTY := Lib.hid (show tyR x y = (eqF partE x.parts y.parts && eqF methE x.meths y.meths) by unfold tyR; rw [HAGX.out, decide_eq_true hs, Bool.true_and, Bool.true_and])
     have PX := hide (fun w (h : Below A4.heap.size A4 w) => (unhide GL1 w (unhide LW4 w h)))
     have PY := hide (fun w (h : Below A4.heap.size A4 w) => (unhide GL2 w (unhide LW4 w h)))
     have HPL := Lib.hid (agR_parts HAGX.out)
     have HML := Lib.hid (agR_meths HAGX.out)
     have HPE := Lib.hid (eqF_at (f := partE) (agR_parts HAGX.out))
     have HME := Lib.hid (eqF_at (f := methE) (agR_meths HAGX.out))
     have hPL : x.parts.length = y.parts.length := agR_parts HAGX.out
     have hML : x.meths.length = y.meths.length := agR_meths HAGX.out
     have CX := hide (fun w (h : Below A4.heap.size A4 w) => (show w.cell? ⟨bx, 7, none⟩ = some (.slice xop x.parts.length xcp) ∧ w.cell? ⟨bx, 8, none⟩ = some (.slice xom x.meths.length xcm) from ⟨(unhide BX4 w h).cell 7, (unhide BX4 w h).cell 8⟩))
     have CY := hide (fun w (h : Below A4.heap.size A4 w) => (show w.cell? ⟨by', 7, none⟩ = some (.slice yop x.parts.length ycp) ∧ w.cell? ⟨by', 8, none⟩ = some (.slice yom x.meths.length ycm) from ⟨by rw [hPL]; exact (unhide BY4 w h).cell 7, by rw [hML]; exact (unhide BY4 w h).cell 8⟩))
     obtain ⟨-, m1, m2, -⟩ := (unhide PX A4 (Below.refl _ _)).parts.at
     obtain ⟨-, m3, m4, -⟩ := (unhide PX A4 (Below.refl _ _)).meths.at
     have l1 : x.parts.length ≤ 9223372036854775807 := by unfold maxLen at m1; omega
     have l2 : x.meths.length ≤ 9223372036854775807 := by unfold maxLen at m3; omega
     have SR := hide (fun w' (h : Below A4.heap.size A4 w') => unhide LW4 w' h)
     clear m1 m2 m3 m4 hPL hML hs
     obtain ⟨NP, hNP⟩ : ∃ n, x.parts.length = n := ⟨_, rfl⟩
     obtain ⟨NM, hNM⟩ : ∃ n, x.meths.length = n := ⟨_, rfl⟩
     have HNP := Lib.hid hNP
     have HNM := Lib.hid hNM
     rw [hNP] at l1 CX CY
     rw [hNM] at l2 CX CY
     clear hNP hNM
     go_wp2
     go_loopg [8] NP (fun g i wr => ∃ q : Nat, q ≤ NP ∧ g = NP - q ∧ i = .int .i64 q ∧ Below A4.heap.size A4 wr ∧ Hid (((x.parts.zip y.parts).take q).all (fun z => partE z.1 z.2) = true))
     case atStart => exact ⟨0, Nat.zero_le _, rfl, rfl, Below.refl _ _, Lib.hid rfl⟩
     case round =>
      clear hs1 hs2
      obtain ⟨q, hq, hgq, rfl, hbv, HT⟩ := hrel
      obtain ⟨d7, d8⟩ := unhide CX wr hbv
      obtain ⟨f7, f8⟩ := unhide CY wr hbv
      by_cases hqn : q < NP
      ·have hqn' : (q : Int) < NP := by omega
       have h1 : q < x.parts.length := by rw [HNP.out]; exact hqn
       have h2 : q < y.parts.length := by rw [← HPL.out]; exact h1
       obtain ⟨-, -, -, hat⟩ := (unhide PX wr hbv).parts.at
       obtain ⟨-, -, -, hbt⟩ := (unhide PY wr hbv).parts.at
       obtain ⟨g1, o1, rfl, e0, e1⟩ := hat q x.parts[q] (List.getElem?_eq_getElem h1)
       obtain ⟨g2, o2, rfl, k0, k1⟩ := hbt q y.parts[q] (List.getElem?_eq_getElem h2)
       have HXQ := fun (h : partE x.parts[q] y.parts[q] = false) => HX (by rw [HTY.out, HPE.out, zip_all_no (f := partE) h1 h2 h]; rfl)
       have HYQ := fun (h : partE x.parts[q] y.parts[q] = true) => Lib.hid (show ((x.parts.zip y.parts).take (q + 1)).all (fun z => partE z.1 z.2) = true by rw [zip_take_next (f := partE) h1 h2, HT.out, h]; rfl)
       clear hat hbt
       generalize x.parts[q] = px at e0 e1 HXQ HYQ
       generalize y.parts[q] = py at k0 k1 HXQ HYQ
       have hBD := hide (fun nq => below_drewN' hbv nq)
       clear HT h1 h2
       obtain ⟨r1, hr1⟩ : ∃ r, (px.name.toList == py.name.toList) = r := ⟨_, rfl⟩
       obtain ⟨r2, hr2⟩ : ∃ r, (px.type == py.type) = r := ⟨_, rfl⟩
       have HPP : partE px py = (r1 && r2) := by
        unfold partE sameS
        rw [hr1, ← hr2]
        congr 1
       rw [HPP] at HXQ HYQ
       clear HPP
       cases r1
       ·have HZ := HXQ rfl
        clear HXQ HYQ HX HY
        go_wp2
        go_quiet (fail)
        go_wp2
        go_ret
        exact ⟨ret_bool HZ.out.symm, unhide SR _ (unhide hBD _)⟩
       cases r2
       ·have HZ := HXQ rfl
        clear HXQ HYQ HX HY
        go_wp2
        go_quiet (fail)
        go_wp2
        go_ret
        exact ⟨ret_bool HZ.out.symm, unhide SR _ (unhide hBD _)⟩
       ·have HZ := HYQ rfl
        clear HXQ HYQ
        go_wp2
        go_quiet (fail)
        go_wp2
        go_roundg (NP - (q + 1))
        case measure => omega
        case rel => exact ⟨q + 1, by omega, rfl, by go_num, unhide hBD nq, HZ⟩
      ·have hqe : q = NP := by omega
       have HTY2 := Lib.hid (show tyR x y = eqF methE x.meths y.meths by
        have h := HT.out
        rw [List.take_of_length_le (by rw [List.length_zip, ← HPL.out, HNP.out]; omega)] at h
        rw [HTY.out, HPE.out, h, Bool.true_and])
       have hge : ¬ (q : Int) < NP := by omega
       clear HT hqe hqn hq hgq
       go_wp2
       have HBV := hide hbv
       clear hbv d7 d8 f7 f8
       go_loopg [9] NM (fun g i wr => ∃ q : Nat, q ≤ NM ∧ g = NM - q ∧ i = .int .i64 q ∧ Below A4.heap.size A4 wr ∧ Hid (((x.meths.zip y.meths).take q).all (fun z => methE z.1 z.2) = true))
       case atStart => exact ⟨0, Nat.zero_le _, rfl, rfl, unhide HBV, Lib.hid rfl⟩
       case round =>
        obtain ⟨q, hq, hgq, rfl, hbv, HT⟩ := hrel
        obtain ⟨d7, d8⟩ := unhide CX wr hbv
        obtain ⟨f7, f8⟩ := unhide CY wr hbv
        by_cases hqn : q < NM
        ·have hqn' : (q : Int) < NM := by omega
         have h1 : q < x.meths.length := by rw [HNM.out]; exact hqn
         have h2 : q < y.meths.length := by rw [← HML.out]; exact h1
         have hal := Lib.hid (agR_args HAGX.out h1 h2)
         obtain ⟨-, -, -, hat⟩ := (unhide PX wr hbv).meths.at
         obtain ⟨-, -, -, hbt⟩ := (unhide PY wr hbv).meths.at
         obtain ⟨g1, o1, rfl, xva, xvr, xv, e0, e1, e2, e3, e4⟩ := hat q x.meths[q] (List.getElem?_eq_getElem h1)
         obtain ⟨g2, o2, rfl, yva, yvr, yv, k0, k1, k2, k3, k4⟩ := hbt q y.meths[q] (List.getElem?_eq_getElem h2)
         have HXQ := fun (h : methE x.meths[q] y.meths[q] = false) => HX (by rw [HTY2.out, HME.out, zip_all_no (f := methE) h1 h2 h])
         have HYQ := fun (h : methE x.meths[q] y.meths[q] = true) => Lib.hid (show ((x.meths.zip y.meths).take (q + 1)).all (fun z => methE z.1 z.2) = true by rw [zip_take_next (f := methE) h1 h2, HT.out, h]; rfl)
         clear hat hbt
         generalize x.meths[q] = mx at xv e0 e1 e2 e3 e4 hal HXQ HYQ
         generalize y.meths[q] = my at yv k0 k1 k2 k3 k4 hal HXQ HYQ
         clear HT h1 h2
         obtain ⟨xoa, xca, rfl⟩ := xv.args.form
         obtain ⟨xor, xcr, rfl⟩ := xv.raises.form
         obtain ⟨yoa, yca, rfl⟩ := yv.args.form
         obtain ⟨yor, ycr, rfl⟩ := yv.raises.form
         have XV := hide (fun w' (h : Below wr.heap.size wr w') => xv.go (.below h))
         have YV := hide (fun w' (h : Below wr.heap.size wr w') => yv.go (.below h))
         have HBV2 := hide (fun w' (h : Below wr.heap.size wr w') => hbv.trans (h.mono hbv.size))
         clear hbv xv yv e0 e4 k0 k4
         go_upto_region 19 with fail
         have lX := (Below.refl wr.heap.size wr).alloc (Nat.le_refl _) (.cells #[.slice xoa mx.args.length xca, .int .i64 mx.result, .slice xor mx.raises.length xcr] 72)
         have bX := Blk.new wr [.slice xoa mx.args.length xca, .int .i64 mx.result, .slice xor mx.raises.length xcr] 72
         change Blk (wr.alloc (.cells #[.slice xoa mx.args.length xca, .int .i64 mx.result, .slice xor mx.raises.length xcr] 72)) _ _ _ at bX
         generalize wr.alloc (.cells #[.slice xoa mx.args.length xca, .int .i64 mx.result, .slice xor mx.raises.length xcr] 72) = A5 at bX lX ⊢
         replace f8 := Holds.below lX _ _ f8
         replace k1 := Holds.below lX _ _ k1
         replace k2 := Holds.below lX _ _ k2
         replace k3 := Holds.below lX _ _ k3
         clear d7 d8 e1 e2 e3 f7
         go_upto_region 20 with fail
         have lY := (Below.refl A5.heap.size A5).alloc (Nat.le_refl _) (.cells #[.slice yoa my.args.length yca, .int .i64 my.result, .slice yor my.raises.length ycr] 72)
         have bY := Blk.new A5 [.slice yoa my.args.length yca, .int .i64 my.result, .slice yor my.raises.length ycr] 72
         change Blk (A5.alloc (.cells #[.slice yoa my.args.length yca, .int .i64 my.result, .slice yor my.raises.length ycr] 72)) _ _ _ at bY
         have bX2 := bX.alloc (.cells #[.slice yoa my.args.length yca, .int .i64 my.result, .slice yor my.raises.length ycr] 72)
         generalize A5.alloc (.cells #[.slice yoa my.args.length yca, .int .i64 my.result, .slice yor my.raises.length ycr] 72) = A6 at bX2 bY lY ⊢
         have lXY := lX.trans (lY.mono lX.size)
         clear f8 k1 k2 k3 bX lX
         generalize wr.heap.size = sx at bX2 ⊢
         generalize A5.heap.size = sy at bY ⊢
         have BX6 := hide (fun w (h : Below A6.heap.size A6 w) => bX2.below h bX2.lt)
         have BY6 := hide (fun w (h : Below A6.heap.size A6 w) => bY.below h bY.lt)
         have HB6 := hide (fun w (h : Below A6.heap.size A6 w) => unhide HBV2 w (lXY.trans (h.mono lXY.size)))
         have XA := hide (fun w (h : Below A6.heap.size A6 w) => (unhide XV w (lXY.trans (h.mono lXY.size))).args)
         have YA := hide (fun w (h : Below A6.heap.size A6 w) => (unhide YV w (lXY.trans (h.mono lXY.size))).args)
         have s1 : A6.cell? ⟨sx, 1, none⟩ = some (.int .i64 mx.result) := bX2.cell 1
         have s2 : A6.cell? ⟨sy, 1, none⟩ = some (.int .i64 my.result) := bY.cell 1
         clear lXY lY bX2 bY XV YV HBV2
         rcases (Decidable.em (mx.result = my.result)).symm with hs | hs
         ·have HZ := HXQ (by unfold methE; rw [decide_eq_false hs, Bool.false_and])
          have hs1 : (mx.result == my.result) = false := by simpa using hs
          have hs2 := bne_of hs1
          clear HXQ HYQ hs hal
          go_wp2
          go_ret
          exact ⟨ret_bool HZ.out.symm, unhide SR _ (unhide HB6 _ (Below.refl _ _))⟩
         have hs1 : (mx.result == my.result) = true := by simpa using hs
         have hs2 := bne_of hs1
         have HMX := Lib.hid (show methE mx my = ((mx.args.zip my.args).all fun z => decide (z.1 = z.2)) by unfold methE; rw [decide_eq_true hs, Bool.true_and, eqF_at (f := fun i j : Int => decide (i = j)) hal.out])
         obtain ⟨NA, hNA⟩ : ∃ n, mx.args.length = n := ⟨_, rfl⟩
         have HNA := Lib.hid hNA
         have HNA2 := Lib.hid (show my.args.length = NA by rw [← hal.out, hNA])
         obtain ⟨-, z1, z2, -⟩ := (unhide XA A6 (Below.refl _ _)).at
         have hNA63 : NA ≤ 9223372036854775807 := by unfold maxLen at z1; omega
         have SXC := hide (fun w (h : Below A6.heap.size A6 w) => (show w.cell? ⟨sx, 0, none⟩ = some (.slice xoa NA xca) from by rw [← hNA]; exact (unhide BX6 w h).cell 0))
         have SYC := hide (fun w (h : Below A6.heap.size A6 w) => (show w.cell? ⟨sy, 0, none⟩ = some (.slice yoa NA yca) from by rw [← hNA, hal.out]; exact (unhide BY6 w h).cell 0))
         clear hs hal hNA z1 z2
         go_wp2
         go_loopg [12] NA (fun g i wr => ∃ z : Nat, z ≤ NA ∧ g = NA - z ∧ i = .int .i64 z ∧ Below A6.heap.size A6 wr ∧ Hid (((mx.args.zip my.args).take z).all (fun v => decide (v.1 = v.2)) = true))
         case atStart => exact ⟨0, Nat.zero_le _, rfl, rfl, Below.refl _ _, Lib.hid rfl⟩
         case round =>
          clear s1 s2 hs1 hs2
          obtain ⟨z, hz, hgz, rfl, hb7, HT⟩ := hrel
          have t1 := unhide SXC wr hb7
          have t2 := unhide SYC wr hb7
          by_cases hzn : z < NA
          ·have hzn' : (z : Int) < NA := by omega
           have h1 : z < mx.args.length := by rw [HNA.out]; exact hzn
           have h2 : z < my.args.length := by rw [HNA2.out]; exact hzn
           obtain ⟨-, -, -, hat⟩ := (unhide XA wr hb7).at
           obtain ⟨-, -, -, hbt⟩ := (unhide YA wr hb7).at
           obtain ⟨g3, o3, rfl, w0⟩ := hat z mx.args[z] (List.getElem?_eq_getElem h1)
           obtain ⟨g4, o4, rfl, y0⟩ := hbt z my.args[z] (List.getElem?_eq_getElem h2)
           unfold IntAt at w0 y0
           simp only [Nat.mul_one] at w0 y0
           have HXZ := fun (h : decide (mx.args[z] = my.args[z]) = false) => HXQ (by rw [HMX.out, zip_all_no (f := fun i j : Int => decide (i = j)) h1 h2 h])
           have HYZ := fun (h : decide (mx.args[z] = my.args[z]) = true) => Lib.hid (show ((mx.args.zip my.args).take (z + 1)).all (fun v => decide (v.1 = v.2)) = true by rw [zip_take_next (f := fun i j : Int => decide (i = j)) h1 h2, HT.out, h]; rfl)
           clear hat hbt
           generalize mx.args[z] = i1 at w0 HXZ HYZ
           generalize my.args[z] = i2 at y0 HXZ HYZ
           have hBD := hide (fun nq => below_drewN' hb7 nq)
           clear HT h1 h2 hb7
           rcases (Decidable.em (i1 = i2)).symm with hi | hi
           ·have HZ := HXZ (decide_eq_false hi)
            have hi1 : (i1 == i2) = false := by simpa using hi
            have hi2 := bne_of hi1
            simp only [Bool.not_false] at hi2
            clear HXZ HYZ HXQ HYQ HX HY hi
            go_wp2
            go_quiet (fail)
            go_wp2
            go_ret
            exact ⟨ret_bool HZ.out.symm, unhide SR _ (unhide HB6 _ (unhide hBD _))⟩
           ·have HZ := HYZ (decide_eq_true hi)
            have hi1 : (i1 == i2) = true := by simpa using hi
            have hi2 := bne_of hi1
            simp only [Bool.not_true] at hi2
            clear HXZ HYZ hi
            go_wp2
            go_quiet (fail)
            go_wp2
            go_roundg (NA - (z + 1))
            case measure => omega
            case rel => exact ⟨z + 1, by omega, rfl, by go_num, unhide hBD nq, HZ⟩
          ·have hze : z = NA := by omega
           have HZ := HYQ (by
            have h := HT.out
            rw [List.take_of_length_le (by rw [List.length_zip, HNA.out, HNA2.out]; omega)] at h
            rw [HMX.out, h])
           have hge3 : ¬ (z : Int) < NA := by omega
           have hbz := unhide HB6 wr hb7
           clear HT HXQ HYQ hze hzn hz hgz hb7
           go_wp2
           go_roundg (NM - (q + 1))
           case measure => omega
           case rel => exact ⟨q + 1, by omega, rfl, by go_num, hbz, HZ⟩
        ·have hqe : q = NM := by omega
         have HZ := HY (by
          have h := HT.out
          rw [List.take_of_length_le (by rw [List.length_zip, ← HML.out, HNM.out]; omega)] at h
          rw [HTY2.out, HME.out, h])
         have hge4 : ¬ (q : Int) < NM := by omega
         have hbz := unhide SR wr hbv
         clear HT hqe
         go_wp2
         go_roundg (n - (k + 1))
         case measure => omega
         case rel => exact ⟨k + 1, by omega, rfl, by go_num, hbz, HZ⟩
    ·have hkn : k = n := by omega
     have HZ := Lib.hid (show eqF tyR G H = true by
      have h := HT.out
      rw [List.take_of_length_le (by rw [List.length_zip, HN.out, HN2.out]; omega)] at h
      rw [HE.out, h])
     have hge : ¬ (k : Int) < n := by omega
     clear HT hkn
     go_wp2
     go_ret
     exact ⟨ret_bool HZ.out.symm, hbw⟩
  ·have HZ := Lib.hid (show eqF tyR G H = false by unfold eqF; rw [decide_eq_false (by rw [HN.out, HN2.out]; exact hne)]; rfl)
   have hne' : ((n : Int) == n2) = false := by simp; omega
   have hne2 := bne_of hne'
   clear hne
   go_enter Tryz.func37, Tryz.ntmps37
   go_wp2
   go_ret
   exact ⟨ret_bool HZ.out.symm, Below.refl _ _⟩
end Go.Proofs.YteaokkaidcbdlaaGreatDoor

