/- Part 25 of 53: the texts Tc, Td, Rd, one behind the other. -/
import Derived.Test.YteaokkaidcbdlaaGreatDoorM23
import Derived.Test.YteaokkaidcbdlaaGreatDoorM24
namespace Go.Proofs.YteaokkaidcbdlaaGreatDoor
open Go Go.RowKit Go.Shelf
theorem eqF_same {α : Type} {f : α → α → Bool} {l m : List α} (h : eqF f l m = true) : l.length = m.length := by
 unfold eqF at h
 rw [Bool.and_eq_true, decide_eq_true_eq] at h
 exact h.1
theorem eqF_cons {α : Type} {f : α → α → Bool} {x y : α} {l m : List α} (h : eqF f (x :: l) (y :: m) = true) : f x y = true ∧ eqF f l m = true := by
 unfold eqF at h ⊢
 rw [Bool.and_eq_true, decide_eq_true_eq] at h
 simp only [List.zip_cons_cons, List.all_cons, Bool.and_eq_true, List.length_cons] at h
 rw [Bool.and_eq_true, decide_eq_true_eq]
 exact ⟨h.2.1, by omega, h.2.2⟩
theorem fitB_iff {i j : Int} (h : fitB i j = true) : i = -1 ↔ j = -1 := by
 unfold fitB at h
 by_cases h1 : i = -1 <;> by_cases h2 : j = -1 <;> simp_all
theorem meths_refs : ∀ {l m : List MethD}, eqF methFitB l m = true → (l.flatMap sigRefs).length = (m.flatMap sigRefs).length
 | [], [], _ => rfl
 | [], _ :: _, h => by have := eqF_same h; simp at this
 | _ :: _, [], h => by have := eqF_same h; simp at this
 | x :: l, y :: m, h => by
   obtain ⟨h1, h2⟩ := eqF_cons h
   have ih := meths_refs h2
   unfold methFitB at h1
   simp only [Bool.and_eq_true] at h1
   obtain ⟨_, _, h3, h4, _⟩ := h1
   have h5 := eqF_same h3
   have h6 := fitB_iff h4
   rw [List.flatMap_cons, List.flatMap_cons, List.length_append, List.length_append, ih]
   congr 1
   unfold sigRefs
   rw [List.length_append, List.length_append, h5]
   congr 1
   by_cases h7 : x.result = -1
   ·rw [if_pos h7, if_pos (h6.1 h7)]
   ·rw [if_neg h7, if_neg (fun e => h7 (h6.2 e))]; rfl
theorem agree_refs {a b : TyD} (h : agreeB a b = true) : (refsOf a).length = (refsOf b).length := by
 unfold agreeB at h
 simp only [Bool.and_eq_true] at h
 obtain ⟨hp, _, h2, h3, _⟩ := h
 unfold plainB at hp
 simp only [Bool.and_eq_true] at hp
 have hk : a.kind = b.kind := by have := hp.1; simp at this; omega
 unfold refsOf
 rw [List.length_append, List.length_append, List.length_append, List.length_append, List.length_map, List.length_map, meths_refs h3, eqF_same h2, hk]
 congr 1
 split <;> rfl
theorem agB_refs {G : List TyD} (p : Nat × Nat) (_ : p.1 < G.length) (_ : p.2 < G.length) (h : agB G p = true) : (refsOf (G.getD p.1 default)).length ≤ (refsOf (G.getD p.2 default)).length :=
 Nat.le_of_eq (agree_refs h)
def tellsL (G : List TyD) : Nat × Nat → List Int → Bool
 | p, [] => !agB G p
 | p, k :: ks => if agB G p then (if 0 ≤ k ∧ k < ((refsOf (G.getD p.1 default)).length : Int) then tellsL G (((refsOf (G.getD p.1 default)).getD k.toNat 0).toNat, ((refsOf (G.getD p.2 default)).getD k.toNat 0).toNat) ks else false) else false
set_option maxRecDepth 100000 in
set_option maxHeartbeats 16000000 in
theorem tellsApart_any (o : Option Addr) (cap : Nat) (G : List TyD) (p0 : Nat × Nat) (wv : Value) (way : List Int) (W : World) (hG : GrAt W (.slice o G.length cap) G) (hR : ∀ t ∈ G, (refsOf t).length ≤ 100000) (hz : ∀ t ∈ G, ∀ x ∈ refsOf t, 0 ≤ x ∧ x < G.length)
    (hw : SliceOf 1 (IntAt W) wv way) (h1 : p0.1 < G.length) (h2 : p0.2 < G.length) :
    Calls Tryz.prog 69 #[.slice o G.length cap, prV p0, wv] W fun e w' => e = .returned (.bool (tellsL G p0 way)) ∧ Below W.heap.size W w' := by
  obtain ⟨ow, cw, rfl⟩ := hw.form
  obtain ⟨-, hwm, hwl, hwat⟩ := hw.at
  have hwn : way.length ≤ 9223372036854775807 := by unfold maxLen at hwm; omega
  unfold prV pairV
  go_enter Tryz.func69, Tryz.ntmps69
  go_wp2
  have hB0 := Blk.new W [.int .i64 p0.1, .int .i64 p0.2] 64
  have hb0 := (Below.refl W.heap.size W).alloc (Nat.le_refl _) (.cells #[.int .i64 p0.1, .int .i64 p0.2] 64)
  change Blk (W.alloc (.cells #[.int .i64 p0.1, .int .i64 p0.2] 64)) _ _ _ at hB0
  generalize W.alloc (.cells #[.int .i64 p0.1, .int .i64 p0.2] 64) = W0 at hB0 hb0 ⊢
  go_loopw [13] (fun i wr => ∃ (q : Nat) (p : Nat × Nat), q ≤ way.length ∧ i = .int .i64 q ∧ Below W.heap.size W wr ∧ Blk wr W.heap.size [.int .i64 p.1, .int .i64 p.2] 64 ∧ p.1 < G.length ∧ p.2 < G.length ∧ tellsL G p0 way = tellsL G p (way.drop q)) (fun i _ => way.length - (intOf i).toNat)
  case atStart => exact ⟨0, p0, Nat.zero_le _, rfl, hb0, hB0, h1, h2, by simp⟩
  case round =>
   obtain ⟨q, p, hq, rfl, hbw, hBp, hp1, hp2, heq⟩ := hrel
   obtain ⟨b, off, u1, u2, u3, rfl, gl1, hc1⟩ := hG.cells hp1
   obtain ⟨b', off', v1, v2, v3, e', gl2, hc2⟩ := hG.cells hp2
   cases e'
   have i1 : (p.1 : Int) < G.length := by omega
   have i2 : (p.2 : Int) < G.length := by omega
   have hA := hide (fun W' (hb : Below wr.heap.size wr W') => agree_any G[p.1] G[p.2] u1 u2 u3 v1 v2 v3 W' (gl1.go (.below (hbw.trans (hb.mono hbw.size)))) (gl2.go (.below (hbw.trans (hb.mono hbw.size)))))
   have hK1 : ∀ W', Below wr.heap.size wr W' → ∀ j u, (tyC G[p.1] u1 u2 u3)[j]? = some u → W'.cell? ⟨b, off + p.1 * 10 + j, none⟩ = some u := fun W' hb => hc1 W' (.below (hbw.trans (hb.mono hbw.size)))
   have hK2 : ∀ W', Below wr.heap.size wr W' → ∀ j u, (tyC G[p.2] v1 v2 v3)[j]? = some u → W'.cell? ⟨b, off + p.2 * 10 + j, none⟩ = some u := fun W' hb => hc2 W' (.below (hbw.trans (hb.mono hbw.size)))
   have hP0 : ∀ W', Below wr.heap.size wr W' → W'.cell? ⟨W.heap.size, 0, none⟩ = some (.int .i64 p.1) := fun W' hb => (hBp.below hb hBp.lt).cell 0
   have hP1 : ∀ W', Below wr.heap.size wr W' → W'.cell? ⟨W.heap.size, 1, none⟩ = some (.int .i64 p.2) := fun W' hb => (hBp.below hb hBp.lt).cell 1
   have hagd : agB G p = agreeB G[p.1] G[p.2] := by unfold agB; simp [List.getD_eq_getElem?_getD, hp1, hp2]
   obtain ⟨bx, hbx⟩ : ∃ bx, agreeB G[p.1] G[p.2] = bx := ⟨_, rfl⟩
   rw [hbx] at hA hagd
   have HGT1 := Lib.hid (show G.getD p.1 default = G[p.1] by simp [List.getD_eq_getElem?_getD, hp1])
   have HGT2 := Lib.hid (show G.getD p.2 default = G[p.2] by simp [List.getD_eq_getElem?_getD, hp2])
   have hT1 : TyAt W b (off + p.1 * 10) G[p.1] := by
    obtain ⟨b2, off2, e2, h⟩ := hG.at.2.2.2 p.1 G[p.1] (List.getElem?_eq_getElem hp1)
    cases e2; exact h
   have hT2 : TyAt W b (off + p.2 * 10) G[p.2] := by
    obtain ⟨b2, off2, e2, h⟩ := hG.at.2.2.2 p.2 G[p.2] (List.getElem?_eq_getElem hp2)
    cases e2; exact h
   have hlr : bx = true → (refsOf G[p.1]).length = (refsOf G[p.2]).length := fun h => agree_refs (hbx.trans h)
   have hm1 : G[p.1] ∈ G := List.getElem_mem hp1
   have hm2 : G[p.2] ∈ G := List.getElem_mem hp2
   clear hbx hc1 hc2 gl1 gl2
   generalize G[p.1] = t1 at hA hK1 HGT1 hm1 hT1 hlr
   generalize G[p.2] = t2 at hA hK2 HGT2 hm2 hT2 hlr
   have HEQ := Lib.hid heq
   have HAG := Lib.hid hagd
   have HHW := hide hwat
   have HRR := hide hR
   have HHZ := hide hz
   have HLR := hide hlr
   clear heq hagd hwat hR hz hlr
   by_cases hlt : q < way.length
   ·have hlt' : (q : Int) < way.length := by omega
    obtain ⟨wb, woff, rfl, hk0⟩ := unhide HHW q way[q] (List.getElem?_eq_getElem hlt)
    have hkc : wr.cell? ⟨wb, woff + q * 1, none⟩ = some (.int .i64 way[q]) := Holds.below hbw _ _ hk0
    rw [Nat.mul_one] at hkc
    have HDR := Lib.hid (show way.drop q = way[q] :: way.drop (q + 1) from List.drop_eq_getElem_cons hlt)
    generalize way[q] = k at hkc HDR hk0
    clear hk0
    go_wp2_with fail
    refine wp_region_quiet (C := fun w' => Below wr.heap.size wr w') (by kernel_rfl) (by kernel_rfl) (below_drewN' (Below.refl _ _) 1) ?_
    simp only []
    repeat (first
    | go_big_quiet_skip
    | (go_big_quiet_want; go_big_quiet_op; first
      | go_big_quiet_on
      | (refine ⟨_, fun _ _ => rfl, ?_⟩; go_big_quiet_on)
      | (refine ⟨.int .i64 (p.1 : Int), ?_, ?_⟩
         ·intro w1 hb
          have e := hP0 w1 hb
          simp [e, go_sem]
          done
         go_big_quiet_on)
      | (refine ⟨.int .i64 (p.2 : Int), ?_, ?_⟩
         ·intro w1 hb
          have e := hP1 w1 hb
          simp [e, go_sem]
          done
         go_big_quiet_on)
      | (refine ⟨tyVal t1 u1 u2 u3, ?_, ?_⟩
         ·intro w1 hb
          have e0 := hK1 w1 hb 0 _ rfl
          have e1 := hK1 w1 hb 1 _ rfl
          have e2 := hK1 w1 hb 2 _ rfl
          have e3 := hK1 w1 hb 3 _ rfl
          have e4 := hK1 w1 hb 4 _ rfl
          have e5 := hK1 w1 hb 5 _ rfl
          have e6 := hK1 w1 hb 6 _ rfl
          have e7 := hK1 w1 hb 7 _ rfl
          have e8 := hK1 w1 hb 8 _ rfl
          have e9 := hK1 w1 hb 9 _ rfl
          rw [Nat.add_zero] at e0
          simp [e0, e1, e2, e3, e4, e5, e6, e7, e8, e9, tyVal, go_sem]
          done
         go_big_quiet_on)
      | (refine ⟨tyVal t2 v1 v2 v3, ?_, ?_⟩
         ·intro w1 hb
          have e0 := hK2 w1 hb 0 _ rfl
          have e1 := hK2 w1 hb 1 _ rfl
          have e2 := hK2 w1 hb 2 _ rfl
          have e3 := hK2 w1 hb 3 _ rfl
          have e4 := hK2 w1 hb 4 _ rfl
          have e5 := hK2 w1 hb 5 _ rfl
          have e6 := hK2 w1 hb 6 _ rfl
          have e7 := hK2 w1 hb 7 _ rfl
          have e8 := hK2 w1 hb 8 _ rfl
          have e9 := hK2 w1 hb 9 _ rfl
          rw [Nat.add_zero] at e0
          simp [e0, e1, e2, e3, e4, e5, e6, e7, e8, e9, tyVal, go_sem]
          done
         go_big_quiet_on)
      | (apply Exists.intro
         refine ⟨fun w1 hb => ?_, ?_⟩
         ·with_reducible refine (unhide hA w1 hb).mono ?_
          rintro e w2 ⟨rfl, hb2⟩
          exact ⟨rfl, hb.trans (hb2.mono hb.size)⟩
         go_big_quiet_on)))
    refine wpQuiet_nil ?_
    rintro w1 hb1
    have hbw1 := hbw.trans (hb1.mono hbw.size)
    cases bx
    ·go_wp2
     go_ret
     exact ⟨ret_bool (by rw [HEQ.out, HDR.out, tellsL, HAG.out]; rfl), hbw1⟩
    ·have hB1 := hBp.below hb1 hBp.lt
     have hQ0 : ∀ W', Below w1.heap.size w1 W' → W'.cell? ⟨W.heap.size, 0, none⟩ = some (.int .i64 p.1) := fun W' hb => (hB1.below hb hB1.lt).cell 0
     have hQ1 : ∀ W', Below w1.heap.size w1 W' → W'.cell? ⟨W.heap.size, 1, none⟩ = some (.int .i64 p.2) := fun W' hb => (hB1.below hb hB1.lt).cell 1
     have HL := hide (fun W' (hb : Below w1.heap.size w1 W') => references_any b (off + p.1 * 10) t1 W' (hT1.go (.below (hbw1.trans (hb.mono hbw1.size)))) (unhide HRR _ hm1))
     have HR := hide (fun W' (hb : Below w1.heap.size w1 W') => references_any b (off + p.2 * 10) t2 W' (hT2.go (.below (hbw1.trans (hb.mono hbw1.size)))) (unhide HRR _ hm2))
     have hbE : Below w1.heap.size w1 w1.drew := ⟨rfl, rfl, rfl, Nat.le_refl _, fun _ _ => rfl⟩
     clear hA hK1 hK2 hP0 hP1
     go_wp2_with fail
     go_region_held3 (fun w' => w'.cell? ⟨W.heap.size, 0, none⟩ = some (.int .i64 p.1) ∧ w'.cell? ⟨W.heap.size, 1, none⟩ = some (.int .i64 p.2)) (exact ⟨hQ0 _ hbE, hQ1 _ hbE⟩) (first
      | (go_at_call 104; with_reducible refine (unhide HL _ hbE).mono ?_; clear HL; rintro e wL ⟨vL, rfl, rL, hbL⟩; obtain ⟨oL, cL, rfl⟩ := row_form rL; (try have rR := Row.below rR hbL); replace hbE := hbE.trans (hbL.mono hbE.size))
      | (go_at_call 104; with_reducible refine (unhide HR _ hbE).mono ?_; clear HR; rintro e wR ⟨vR, rfl, rR, hbR⟩; obtain ⟨oR, cR, rfl⟩ := row_form rR; (try have rL := Row.below rL hbR); replace hbE := hbE.trans (hbR.mono hbE.size)))
     all_goals
      have hl12 := unhide HLR (by simp)
      have hbe := hbw1.trans (hbE.mono hbw1.size)
      rcases (show k < 0 ∨ (0 ≤ k ∧ ((refsOf t1).length : Int) ≤ k) ∨ (0 ≤ k ∧ k < (refsOf t1).length) by omega) with hk | ⟨hk, hk'⟩ | ⟨hk, hk'⟩
      ·have HX := Lib.hid (show tellsL G p0 way = false by rw [HEQ.out, HDR.out, tellsL, HAG.out, HGT1.out, if_pos rfl, if_neg (by omega)])
       clear hl12
       go_wp2
       go_ret
       exact ⟨ret_bool HX.out.symm, hbe⟩
      ·have HX := Lib.hid (show tellsL G p0 way = false by rw [HEQ.out, HDR.out, tellsL, HAG.out, HGT1.out, if_pos rfl, if_neg (by omega)])
       have hk0 : ¬ k < 0 := by omega
       clear hl12
       go_wp2
       go_ret
       exact ⟨ret_bool HX.out.symm, hbe⟩
      ·obtain ⟨kn, rfl⟩ := Int.eq_ofNat_of_zero_le hk
       have hkn2 : kn < (refsOf t2).length := by omega
       have hkn1 : kn < (refsOf t1).length := by omega
       obtain ⟨gL, rfl, -, cLk⟩ := row_cell rL kn hkn1
       obtain ⟨gR, rfl, -, cRk⟩ := row_cell rR kn hkn2
       obtain ⟨x, hx⟩ : ∃ x : Nat, (refsOf t1)[kn] = x := Int.eq_ofNat_of_zero_le (unhide HHZ _ hm1 _ (List.getElem_mem hkn1)).1
       obtain ⟨y, hy⟩ : ∃ y : Nat, (refsOf t2)[kn] = y := Int.eq_ofNat_of_zero_le (unhide HHZ _ hm2 _ (List.getElem_mem hkn2)).1
       have hxn : x < G.length := by have := (unhide HHZ _ hm1 _ (List.getElem_mem hkn1)).2; rw [hx] at this; omega
       have hyn : y < G.length := by have := (unhide HHZ _ hm2 _ (List.getElem_mem hkn2)).2; rw [hy] at this; omega
       rw [hx] at cLk
       rw [hy] at cRk
       have HX := Lib.hid (show tellsL G p0 way = tellsL G (x, y) (way.drop (q + 1)) by
        rw [HEQ.out, HDR.out, tellsL, HAG.out, HGT1.out, HGT2.out, if_pos rfl, if_pos ⟨hk, by omega⟩]
        simp [List.getD_eq_getElem?_getD, hkn1, hkn2, hx, hy])
       have hk0 : ¬ (kn : Int) < 0 := by omega
       have hk1 : ¬ ((refsOf t1).length : Int) ≤ kn := by omega
       have hB2 := hB1.below hbE hB1.lt
       clear hl12 hx hy hQ0 hQ1
       go_wp2_with fail
       refine region_tail 9 (by kernel_rfl) (by kernel_rfl) ?_
       simp only [List.take_succ_cons, List.take_zero, List.drop_succ_cons, List.drop_zero]
       repeat (go_big_quiet_step (fail))
       refine wpQuiet_nil ?_
       rintro _ ⟨nq, rfl⟩
       have hbn := below_drewN' hbe nq
       have c90 := (hB2.drewN nq).cell 0
       have c91 := (hB2.drewN nq).cell 1
       have z90 := (hB2.drewN nq).frozen 0
       have z91 := (hB2.drewN nq).frozen 1
       have hB3 := (hB2.drewN nq).set 0 (.int .i64 (x : Int))
       have hB4 := hB3.set 1 (.int .i64 (y : Int))
       go_wp2
       exact ⟨⟨q + 1, (x, y), by omega, by go_num, (hbn.setCell (p := ⟨W.heap.size, 0, none⟩) (Nat.le_refl _) _).setCell (p := ⟨W.heap.size, 1, none⟩) (Nat.le_refl _) _, hB4, hxn, hyn, HX.out⟩, by simp [intOf]; omega⟩
   ·obtain rfl : q = way.length := by omega
    have HDR := Lib.hid (show way.drop way.length = [] from List.drop_length)
    go_wp2_with fail
    refine wp_region_quiet (C := fun w' => Below wr.heap.size wr w') (by kernel_rfl) (by kernel_rfl) (below_drewN' (Below.refl _ _) 1) ?_
    simp only []
    repeat (first
    | go_big_quiet_skip
    | (go_big_quiet_want; go_big_quiet_op; first
      | go_big_quiet_on
      | (refine ⟨_, fun _ _ => rfl, ?_⟩; go_big_quiet_on)
      | (refine ⟨.int .i64 (p.1 : Int), ?_, ?_⟩
         ·intro w1 hb
          have e := hP0 w1 hb
          simp [e, go_sem]
          done
         go_big_quiet_on)
      | (refine ⟨.int .i64 (p.2 : Int), ?_, ?_⟩
         ·intro w1 hb
          have e := hP1 w1 hb
          simp [e, go_sem]
          done
         go_big_quiet_on)
      | (refine ⟨tyVal t1 u1 u2 u3, ?_, ?_⟩
         ·intro w1 hb
          have e0 := hK1 w1 hb 0 _ rfl
          have e1 := hK1 w1 hb 1 _ rfl
          have e2 := hK1 w1 hb 2 _ rfl
          have e3 := hK1 w1 hb 3 _ rfl
          have e4 := hK1 w1 hb 4 _ rfl
          have e5 := hK1 w1 hb 5 _ rfl
          have e6 := hK1 w1 hb 6 _ rfl
          have e7 := hK1 w1 hb 7 _ rfl
          have e8 := hK1 w1 hb 8 _ rfl
          have e9 := hK1 w1 hb 9 _ rfl
          rw [Nat.add_zero] at e0
          simp [e0, e1, e2, e3, e4, e5, e6, e7, e8, e9, tyVal, go_sem]
          done
         go_big_quiet_on)
      | (refine ⟨tyVal t2 v1 v2 v3, ?_, ?_⟩
         ·intro w1 hb
          have e0 := hK2 w1 hb 0 _ rfl
          have e1 := hK2 w1 hb 1 _ rfl
          have e2 := hK2 w1 hb 2 _ rfl
          have e3 := hK2 w1 hb 3 _ rfl
          have e4 := hK2 w1 hb 4 _ rfl
          have e5 := hK2 w1 hb 5 _ rfl
          have e6 := hK2 w1 hb 6 _ rfl
          have e7 := hK2 w1 hb 7 _ rfl
          have e8 := hK2 w1 hb 8 _ rfl
          have e9 := hK2 w1 hb 9 _ rfl
          rw [Nat.add_zero] at e0
          simp [e0, e1, e2, e3, e4, e5, e6, e7, e8, e9, tyVal, go_sem]
          done
         go_big_quiet_on)
      | (apply Exists.intro
         refine ⟨fun w1 hb => ?_, ?_⟩
         ·with_reducible refine (unhide hA w1 hb).mono ?_
          rintro e w2 ⟨rfl, hb2⟩
          exact ⟨rfl, hb.trans (hb2.mono hb.size)⟩
         go_big_quiet_on)))
    refine wpQuiet_nil ?_
    rintro w1 hb1
    go_wp2
    go_ret
    exact ⟨ret_bool (by rw [HEQ.out, HDR.out, tellsL, HAG.out]), hbw.trans (hb1.mono hbw.size)⟩
end Go.Proofs.YteaokkaidcbdlaaGreatDoor

namespace Go.Proofs.YteaokkaidcbdlaaGreatDoor
open Go Go.RowKit Go.Shelf
def clF (G : List TyD) (q : Nat) : Nat := (classesL G).getD q 0
def apartL (G : List TyD) (i j : Int) : List Int × Bool × Int :=
 if checkedR G [i, j] ≠ 0 then ([], false, checkedR G [i, j]) else if clF G i.toNat = clF G j.toNat then ([], false, 0) else (tellL G (clF G) (i.toNat, j.toNat), true, 0)
def ckApartL (G : List TyD) (i j : Int) (way : List Int) : Bool × Int :=
 if checkedR G [i, j] ≠ 0 then (false, checkedR G [i, j]) else (tellsL G (i.toNat, j.toNat) way, 0)
theorem checked_fit {G : List TyD} (hz : GrZ G) {l : List Int} (h : checkedR G l = 0) : Fit G := check_fit hz (by
 unfold checkedR at h
 split at h
 ·rename_i hne; exact absurd h hne
 ·rename_i hne; simpa using hne)
theorem checked_ij {G : List TyD} {i j : Int} (h0 : checkedR G [i, j] = 0) : ∃ a b : Nat, i = a ∧ j = b ∧ a < G.length ∧ b < G.length := by
 have hij : idxB G.length i = true ∧ idxB G.length j = true := by
  unfold checkedR at h0
  split at h0
  ·contradiction
  ·split at h0
   ·rename_i hh; simpa using hh
   ·contradiction
 have hi : 0 ≤ i ∧ i < G.length := by have := hij.1; unfold idxB at this; simp at this; omega
 have hj : 0 ≤ j ∧ j < G.length := by have := hij.2; unfold idxB at this; simp at this; omega
 obtain ⟨a, rfl⟩ := Int.eq_ofNat_of_zero_le hi.1
 obtain ⟨b, rfl⟩ := Int.eq_ofNat_of_zero_le hj.1
 exact ⟨a, b, rfl, rfl, by omega, by omega⟩
theorem checked_two (gv : Value) (G : List TyD) (i j : Int) (W : World) (hG0 : GrAt W gv G) (hz : GrZ G) :
    Calls Tryz.prog 57 #[gv, .slice (some ⟨W.heap.size, 0, none⟩) 2 2] (W.alloc (.cells #[.int .i64 i, .int .i64 j] 3)) fun e w' => e = .returned (.int .i64 (checkedR G [i, j])) ∧ Below (W.alloc (.cells #[.int .i64 i, .int .i64 j] 3)).heap.size (W.alloc (.cells #[.int .i64 i, .int .i64 j] 3)) w' := by
  have bA := Blk.new W [.int .i64 i, .int .i64 j] 3
  have hbA := (Below.refl W.heap.size W).alloc (Nat.le_refl _) (.cells #[.int .i64 i, .int .i64 j] 3)
  change Blk (W.alloc (.cells #[.int .i64 i, .int .i64 j] 3)) _ _ _ at bA
  have hL : SliceOf 1 (IntAt (W.alloc (.cells #[.int .i64 i, .int .i64 j] 3))) (.slice (some ⟨W.heap.size, 0, none⟩) 2 2) [i, j] := by
   refine ⟨some ⟨W.heap.size, 0, none⟩, 2, rfl, Nat.le_refl _, by decide, fun q x hx => ⟨_, 0, rfl, ?_⟩⟩
   unfold IntAt
   match q with
   | 0 => simp at hx; subst hx; exact bA.cell 0
   | 1 => simp at hx; subst hx; exact bA.cell 1
   | q + 2 => simp at hx
  exact checked_any _ G _ (hG0.below hbA) hz _ [i, j] hL
theorem classes_cell {w3 : World} {base g c : Nat} {G : List TyD} (hr : w3.ownsRow base 3 1 (.slice (some ⟨g, 0, none⟩) G.length c) G.length (natsV (classesL G))) (q : Nat) (hq : q < G.length) : w3.cell? ⟨g, q, none⟩ = some (.int .i64 (clF G q)) := by
 have hq' : q < (classesL G).length := by rw [classesL_len]; exact hq
 rw [Row1.cells hr q hq]
 unfold natsV clF
 rw [List.getElem?_map, List.getElem?_eq_getElem hq', List.getD_eq_getElem?_getD, List.getElem?_eq_getElem hq']; rfl
set_option maxRecDepth 100000 in
set_option maxHeartbeats 8000000 in
theorem apart_all (gv : Value) (G : List TyD) (i j : Int) (W : World) (hG0 : GrAt W gv G) (hz : GrZ G) :
    Calls Tryz.prog 27 #[gv, .int .i64 i, .int .i64 j] W fun e w' => ∃ v, e = .returned (.tuple #[v, .bool (apartL G i j).2.1, .int .i64 (apartL G i j).2.2]) ∧ w'.ownsRow W.heap.size 3 1 v (apartL G i j).1.length ((apartL G i j).1.map (.int .i64)) ∧ Below W.heap.size W w' := by
  obtain ⟨o, cap, rfl⟩ := hG0.form
  have hbA := (Below.refl W.heap.size W).alloc (Nat.le_refl _) (.cells #[.int .i64 i, .int .i64 j] 3)
  have HC := hide (checked_two _ G i j W hG0 hz)
  by_cases h0 : checkedR G [i, j] = 0
  ·obtain ⟨h1, h2, h3⟩ := checked_fit hz h0
   obtain ⟨a, b, rfl, rfl, ha, hb⟩ := checked_ij h0
   have HX := Lib.hid (show apartL G a b = if clF G a = clF G b then ([], false, 0) else (tellL G (clF G) (a, b), true, 0) by
    unfold apartL; rw [if_neg (by simp [h0])]; rfl)
   have HK := hide (fun (w1 : World) (h : Below W.heap.size W w1) => classes_any _ G w1 (hG0.below h) h1 h2 h3)
   have HTA := hide (fun (w1 : World) (h : Below W.heap.size W w1) (cg ccap : Nat) hcl => tellApart_any o cap G cg ccap (clF G) (a, b) w1 (hG0.below h) h1 h2 h3 hcl ha hb agB_refs)
   unfold prV pairV at HTA
   have HCell := hide (fun (w3 : World) (base g c : Nat) (hr : w3.ownsRow base 3 1 (.slice (some ⟨g, 0, none⟩) G.length c) G.length (natsV (classesL G))) (q : Nat) (hq : q < G.length) => classes_cell hr q hq)
   rw [h0] at HC
   have hbA' := hbA
   have hpos : 0 < G.length := by omega
   have ha' : (a : Int) < G.length := by omega
   have hb' : (b : Int) < G.length := by omega
   obtain ⟨xa, hxa⟩ : ∃ x, clF G a = x := ⟨_, rfl⟩
   obtain ⟨xb, hxb⟩ : ∃ x, clF G b = x := ⟨_, rfl⟩
   have HXA := Lib.hid hxa
   have HXB := Lib.hid hxb
   have HH3 := hide h3
   have HH2 := hide h2
   clear hxa hxb h0 h1 h2 h3 hz hG0
   go_enter Tryz.func27, Tryz.ntmps27
   go_wp2_with (first | (go_at_call 57; refine (unhide HC).mono ?_; clear HC; rintro e w1 ⟨rfl, hb1⟩; have hb1' := hbA'.trans (hb1.mono hbA'.size)) | (go_at_call 64; refine (unhide HK w1 hb1').mono ?_; clear HK; rintro e w3 ⟨v3, rfl, hr3, hb3⟩; obtain ⟨o3, c3, rfl⟩ := row_form hr3; obtain ⟨g3, rfl⟩ := row_some hr3 hpos; have hca := unhide HCell w3 _ _ _ hr3 a ha; have hcb := unhide HCell w3 _ _ _ hr3 b hb; rw [HXA.out] at hca; rw [HXB.out] at hcb; have hbe := hb1'.trans (hb3.mono hb1'.size); have hBD := fun nq => below_drewN' hbe nq))
   by_cases hxx : xa = xb
   ·have hxe : ((xa : Int) == xb) = true := by simp [hxx]
    go_quiet (fail)
    go_wp2
    have hres : apartL G a b = ([], false, 0) := by rw [HX.out, HXA.out, HXB.out, if_pos hxx]
    go_ret3
    rw [hres]
    exact ⟨_, rfl, World.ownsRow_nil _ _ _ _, hBD _⟩
   ·have hxe : ((xa : Int) == xb) = false := by simp; omega
    go_quiet (fail)
    have HT := hide (unhide HTA (w3.drewN nq) (hBD nq) g3 c3 (fun q hq => unhide HCell w3 _ _ _ hr3 q hq))
    go_wp2_with (go_at_call 68; refine (unhide HT).mono ?_; clear HT; rintro e w5 ⟨v5, rfl, r5, hb5⟩)
    have hres : apartL G a b = (tellL G (clF G) (a, b), true, 0) := by rw [HX.out, HXA.out, HXB.out, if_neg hxx]
    go_ret3
    rw [hres]
    exact ⟨v5, rfl, Row.mono r5 (hBD nq).size, (hBD nq).trans (hb5.mono (hBD nq).size)⟩
  ·have HX := Lib.hid (show apartL G i j = ([], false, checkedR G [i, j]) by unfold apartL; rw [if_pos h0])
   clear hG0 hz
   generalize checkedR G [i, j] = ck at h0 HC HX
   go_enter Tryz.func27, Tryz.ntmps27
   go_wp2_with (first | (go_at_call 57; refine (unhide HC).mono ?_; clear HC; rintro e w1 ⟨rfl, hb1⟩; have hb1' := hbA.trans (hb1.mono hbA.size)))
   go_ret3
   rw [HX.out]
   exact ⟨_, rfl, World.ownsRow_nil _ _ _ _, hb1'⟩
set_option maxRecDepth 100000 in
set_option maxHeartbeats 8000000 in
theorem checkApart_all (gv wv : Value) (G : List TyD) (i j : Int) (way : List Int) (W : World) (hG0 : GrAt W gv G) (hz : GrZ G) (hw : SliceOf 1 (IntAt W) wv way) :
    Calls Tryz.prog 29 #[gv, .int .i64 i, .int .i64 j, wv] W fun e w' => e = .returned (.tuple #[.bool (ckApartL G i j way).1, .int .i64 (ckApartL G i j way).2]) ∧ Below W.heap.size W w' := by
  obtain ⟨o, cap, rfl⟩ := hG0.form
  obtain ⟨ow, cw, rfl⟩ := hw.form
  have hbA := (Below.refl W.heap.size W).alloc (Nat.le_refl _) (.cells #[.int .i64 i, .int .i64 j] 3)
  have HC := hide (checked_two _ G i j W hG0 hz)
  by_cases h0 : checkedR G [i, j] = 0
  ·obtain ⟨h1, h2, h3⟩ := checked_fit hz h0
   obtain ⟨a, b, rfl, rfl, ha, hb⟩ := checked_ij h0
   have HX := Lib.hid (show ckApartL G a b way = (tellsL G (a, b) way, 0) by unfold ckApartL; rw [if_neg (by simp [h0])]; rfl)
   have HTA := hide (fun (w1 : World) (h : Below W.heap.size W w1) => tellsApart_any o cap G (a, b) (.slice ow way.length cw) way w1 (hG0.below h) h2 h3 (hw.mono fun _ _ _ _ => IntAt.go (.below h)) ha hb)
   unfold prV pairV at HTA
   rw [h0] at HC
   clear h0 h1 h2 h3 hz hG0 hw
   go_enter Tryz.func29, Tryz.ntmps29
   go_wp2_with (first | (go_at_call 57; refine (unhide HC).mono ?_; clear HC; rintro e w1 ⟨rfl, hb1⟩; have hb1' := hbA.trans (hb1.mono hbA.size)) | (go_at_call 69; refine (unhide HTA w1 hb1').mono ?_; clear HTA; rintro e w2 ⟨rfl, hb2⟩))
   go_ret2
   exact ⟨by rw [HX.out]; rfl, hb1'.trans (hb2.mono hb1'.size)⟩
  ·have HX := Lib.hid (show ckApartL G i j way = (false, checkedR G [i, j]) by unfold ckApartL; rw [if_pos h0])
   clear hG0 hz hw
   generalize checkedR G [i, j] = ck at h0 HC HX
   go_enter Tryz.func29, Tryz.ntmps29
   go_wp2_with (first | (go_at_call 57; refine (unhide HC).mono ?_; clear HC; rintro e w1 ⟨rfl, hb1⟩; have hb1' := hbA.trans (hb1.mono hbA.size)))
   go_ret2
   exact ⟨by rw [HX.out]; rfl, hb1'⟩
end Go.Proofs.YteaokkaidcbdlaaGreatDoor

namespace Go.Proofs.YteaokkaidcbdlaaGreatDoor
open Go Go.RowKit Go.Shelf
def addR (sf : Nat → Nat) (R : List Nat) (x : Int) : List Nat := if sf x.toNat ∈ R then R else R ++ [sf x.toNat]
def addRs (sf : Nat → Nat) (R : List Nat) (l : List Int) : List Nat := l.foldl (addR sf) R
theorem addRs_snoc (sf : Nat → Nat) (R : List Nat) (l : List Int) (x : Int) : addRs sf R (l ++ [x]) = addR sf (addRs sf R l) x := by unfold addRs; rw [List.foldl_append]; rfl
def reachF (sf : Nat → Nat) (G : List TyD) : Nat → Nat → List Nat → List Nat
 | 0, _, R => R
 | f + 1, k, R => match R[k]? with
   | none => R
   | some t => reachF sf G f (k + 1) (addRs sf R (refsOf (G.getD t default)))
def reachL (sf : Nat → Nat) (G : List TyD) (a : Nat) : List Nat := reachF sf G (G.length + 1) 0 [sf a]
structure RInv (G : List TyD) (R : List Nat) : Prop where
 nodup : R.Nodup
 bnd : ∀ x ∈ R, x < G.length
theorem RInv.add {G : List TyD} {sf : Nat → Nat} (hsf : ∀ x, x < G.length → sf x < G.length) {R : List Nat} (h : RInv G R) {x : Int} (h0 : 0 ≤ x) (h1 : x < G.length) : RInv G (addR sf R x) := by
 unfold addR
 split
 ·exact h
 ·rename_i hn
  refine ⟨?_, fun y hy => ?_⟩
  ·rw [List.nodup_append]
   exact ⟨h.nodup, by simp, fun p hp q hq e => by simp at hq; subst hq; exact hn (e ▸ hp)⟩
  ·rw [List.mem_append, List.mem_singleton] at hy
   rcases hy with hy | rfl
   ·exact h.bnd y hy
   ·exact hsf _ (by omega)
theorem RInv.len {G : List TyD} {R : List Nat} (h : RInv G R) : R.length ≤ G.length := nodup_le _ _ h.nodup h.bnd
theorem addRs_pre (sf : Nat → Nat) : ∀ (l : List Int) (R : List Nat), R <+: addRs sf R l
 | [], R => List.prefix_refl _
 | x :: l, R => by
   have h1 : R <+: addR sf R x := by
    unfold addR; split
    ·exact List.prefix_refl _
    ·exact List.prefix_append _ _
   exact h1.trans (addRs_pre sf l _)
def numA (R : List Nat) : List (Nat × Value) := R.zipIdx.map fun x => (x.1, natI x.2)
theorem numA_keys (R : List Nat) : (numA R).map (·.1) = R := by
 unfold numA; rw [List.map_map]; exact List.zipIdx_map_fst 0 R
theorem numA_snoc (R : List Nat) (x : Nat) : numA (R ++ [x]) = numA R ++ [(x, natI R.length)] := by
 unfold numA; rw [List.zipIdx_append, List.map_append]; simp
theorem lookA_num {R : List Nat} (hn : R.Nodup) {k : Nat} (h : k < R.length) : lookA (numA R) R[k] = some (natI k) := by
 apply lookA_mem
 ·rw [numA_keys]; exact hn
 ·unfold numA
  exact List.mem_map.2 ⟨(R[k], k), by rw [List.mem_zipIdx_iff_getElem?]; simp [h], rfl⟩
abbrev MapN (w : World) (b : Nat) (R : List Nat) : Prop := AMap w b 3 natI (numA R)
theorem natI_inj' (x y : Nat) (h : natI x = natI y) : x = y := by unfold natI at h; simp at h; omega
structure TR (W wr : World) (fv : Value) (N mbk b8 b9 : Nat) (R : List Nat) (rv : Value) (ms : List Nat) : Prop where
 bel : Below W.heap.size W wr
 hN : W.heap.size + 1 ≤ N
 ge : N ≤ mbk ∧ N ≤ b8 ∧ N ≤ b9
 f : Boxed wr W.heap.size 94 fv
 qb : Boxed wr b8 37 rv
 row : wr.ownsRow N 3 1 rv R.length (natsV R)
 mb : Boxed wr b9 95 (.map (some mbk))
 mp : MapN wr mbk R
 op : Open' wr N ms
theorem TR.below {W wr w' : World} {fv rv : Value} {N mbk b8 b9 : Nat} {R : List Nat} {ms : List Nat} (h : TR W wr fv N mbk b8 b9 R rv ms) (hb : Below wr.heap.size wr w') : TR W w' fv N mbk b8 b9 R rv ms :=
 ⟨h.bel.trans (hb.mono h.bel.size), h.hN, h.ge, (hb.block _ h.f.lt).trans h.f, (hb.block _ h.qb.lt).trans h.qb, Row.below h.row hb, (hb.block _ h.mb.lt).trans h.mb, h.mp.below hb h.mp.lt, h.op.below hb⟩
theorem TR.put {W wr : World} {fv rv : Value} {N mbk b8 b9 : Nat} {R : List Nat} {ms : List Nat} (h : TR W wr fv N mbk b8 b9 R rv ms) {l : Nat} {o : Obj} (o' : Obj) (hl : wr.heap[l]? = some o) (ho : o.isCells = false) (hlN : mbk < l) (hms : ∀ D ∈ ms, D < l) :
    TR W (wr.putObj l o') fv N mbk b8 b9 R rv ms := by
  have hot : ∀ b x, wr.heap[b]? = some x → b ≠ l → (wr.putObj l o').heap[b]? = some x := fun b x hb hne => (World.putObj_heap_other (by omega)).trans hb
  have hN := h.hN
  have hge := h.ge
  refine ⟨h.bel.grown (grownBy_putObj' wr l o') h.bel.size (fun j e => by cases e; omega), h.hN, h.ge, hot _ _ h.f (by omega), hot _ _ h.qb ?_, ownsRow_putObj h.row o' hl ho, hot _ _ h.mb ?_, h.mp.block (World.putObj_heap_other (by omega)), h.op.keeps fun D hD => World.putObj_heap_other (by have := hms D hD; omega)⟩
  ·rintro rfl; rw [h.qb] at hl; cases hl; cases ho
  ·rintro rfl; rw [h.mb] at hl; cases hl; cases ho
theorem TR.more {W wr w1 w' : World} {fv rv rv' : Value} {N mbk b8 b9 : Nat} {R : List Nat} {ms : List Nat} (h : TR W wr fv N mbk b8 b9 R rv ms) (hg1 : wr.grownBy w1 (some mbk)) (x : Nat) (hM : MapN w1 mbk (R ++ [x])) (tmp : Obj)
    (hown : w'.ownsRow N 3 1 rv' (R.length + 1) (natsV R ++ [natI x])) (hg : (w1.alloc tmp).grownBy w' rv.ownBlock) :
    TR W (w'.setCell ⟨b8, 0, none⟩ rv') fv N mbk b8 b9 (R ++ [x]) rv' ms := by
  have hge := h.ge
  have hN := h.hN
  have hk1 : ∀ (b : Nat) (cs : Array Value) (t : TypeId) (f : Nat × Nat), wr.heap[b]? = some (.cells cs t f) → w1.heap[b]? = some (.cells cs t f) := fun b cs t f hb => (hg1.block b (Array.getElem?_eq_some_iff.1 hb).1 (by simpa using h.mp.ne_cells hb)).trans hb
  have hrow1 : w1.ownsRow N 3 1 rv R.length (natsV R) := h.row.kept hg1 (.inr fun e => row_ne_map h.mp h.row e.symm)
  have hrA := hrow1.alloc tmp
  have q81 : Boxed w1 b8 37 rv := hk1 _ _ _ _ h.qb
  have hk : ∀ (b : Nat) (o : Obj), w1.heap[b]? = some o → some b ≠ rv.ownBlock → w'.heap[b]? = some o := fun b o hb hne => by
   have hlt := (Array.getElem?_eq_some_iff.1 hb).1
   exact (hg.block b (by simp; omega) hne).trans ((Below.heap_alloc _ _ _ hlt).trans hb)
  have q8 : Boxed w' b8 37 rv := hk _ _ q81 (q81.not_row (by decide) hrow1)
  have hset : ∀ (b : Nat) (o : Obj), w'.heap[b]? = some o → b ≠ b8 → (w'.setCell ⟨b8, 0, none⟩ rv').heap[b]? = some o := fun b o hb hne => by
   show (w'.heap.modify b8 _)[b]? = _
   rw [Array.getElem?_modify, if_neg (by omega)]; exact hb
  have hty : ∀ b v t, Boxed w1 b t v → t ≠ 37 → b ≠ b8 := by
   rintro b v t hb ht rfl
   unfold Boxed at q81 hb
   rw [hb] at q81; cases q81; exact ht rfl
  have f1 : Boxed w1 W.heap.size 94 fv := hk1 _ _ _ _ h.f
  have m1 : Boxed w1 b9 95 _ := hk1 _ _ _ _ h.mb
  have hb0 : Below W.heap.size W w' := ((h.bel.grown hg1 h.bel.size (fun j e => by cases e; omega)).alloc (Nat.le_trans h.bel.size hg1.size) tmp).grown hg (by simp; have := h.bel.size; have := hg1.size; omega) (fun j e => by have := (hrow1.lt j e).1; omega)
  have hM' : MapN w' mbk (R ++ [x]) := (hM.alloc tmp).kept hg (row_ne_map (hM.alloc tmp) hrA)
  refine ⟨hb0.setCell (p := ⟨b8, 0, none⟩) (show W.heap.size ≤ b8 by omega) rv', hN, hge, hset _ _ (hk _ _ f1 (f1.not_row (by decide) hrow1)) (hty _ _ _ f1 (by decide)), q8.set rv', ?_, hset _ _ (hk _ _ m1 (m1.not_row (by decide) hrow1)) (hty _ _ _ m1 (by decide)), hM'.set rv' (fun e => hM'.ne_cells q8 e.symm), ?_⟩
  ·rw [natsV_snoc, List.length_append]
   exact hown.kept (grownBy_setCell' w' b8 rv') (.inr fun e => q8.not_row (by decide) hown e.symm)
  ·have h0 := h.op.grown hg1 (fun r e => by
     cases e
     obtain ⟨es, clock, hm, _⟩ := h.mp.at'
     exact ⟨_, hm, fun ds e => by cases e⟩)
   have h1 := (h0.below ((Below.refl _ _).alloc (Nat.le_refl _) tmp)).grown hg (fun r e => by
    rcases hrA.2 with ⟨rfl, _⟩ | ⟨g, cap, cur, rfl, _, hgb, _⟩
    ·simp [Value.ownBlock] at e
    ·simp only [Value.ownBlock, Option.some.injEq] at e
     subst e
     exact ⟨_, hgb, fun ds e => by cases e⟩)
   exact h1.grown (grownBy_setCell' w' b8 rv') (fun r e => by cases e; exact ⟨_, q8, fun ds e => by cases e⟩)
end Go.Proofs.YteaokkaidcbdlaaGreatDoor

