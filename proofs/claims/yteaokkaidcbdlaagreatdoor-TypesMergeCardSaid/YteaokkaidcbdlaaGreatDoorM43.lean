/- Part 43 of 53: the texts Xc, one behind the other. -/
import Derived.Test.YteaokkaidcbdlaaGreatDoorM36
namespace Go.Proofs.YteaokkaidcbdlaaGreatDoor
open Go Go.RowKit Go.Shelf
theorem raises_next {l : List ByteArray} {k : Nat} : (List.range (k + 1)).all (raisesAt l) = ((List.range k).all (raisesAt l) && raisesAt l k) := range_all _ _
theorem raises_no {l : List ByteArray} {k : Nat} (h : k < l.length) (hr : raisesAt l k = false) : (List.range l.length).all (raisesAt l) = false :=
 List.all_eq_false.2 ⟨k, List.mem_range.2 h, by simp [hr]⟩
set_option maxRecDepth 100000 in
set_option maxHeartbeats 16000000 in
theorem refSig_any (go : Option Addr) (n gc : Nat) (va vr : Value) (m : MethD) (W : World) (hl : MethV W va vr m) (hz : ∀ r ∈ m.raises, r.size ≤ maxLen) :
    Calls Tryz.prog 154 #[.slice go n gc, .agg #[va, .int .i64 m.result, vr]] W fun e w' => e = .returned (.bool (sigB n m)) ∧ Below W.heap.size W w' := by
  obtain ⟨oa, ca, rfl⟩ := hl.args.form
  obtain ⟨orr, cr, rfl⟩ := hl.raises.form
  obtain ⟨_, hma, hla, hata⟩ := hl.args.at
  obtain ⟨_, hmr, hlr, hatr⟩ := hl.raises.at
  have ha63 : m.args.length ≤ 9223372036854775807 := by unfold maxLen at hma; omega
  have hr63 : m.raises.length ≤ 9223372036854775807 := by unfold maxLen at hmr; omega
  clear hl hma hla hmr hlr
  obtain ⟨A, hA⟩ : ∃ A, m.args.length = A := ⟨_, rfl⟩
  obtain ⟨R, hR⟩ : ∃ R, m.raises.length = R := ⟨_, rfl⟩
  obtain ⟨V, hV⟩ : ∃ V, m.result = V := ⟨_, rfl⟩
  have HS := Lib.hid (show sigB n m = ((decide (A ≤ 6) && decide (R ≤ 6)) && (m.args.all (idxB n) && ((decide (V = -1) || idxB n V) && (List.range R).all (raisesAt m.raises)))) by unfold sigB; rw [hA, hR, hV])
  have HA := Lib.hid hA
  have HR := Lib.hid hR
  rw [hA] at ha63 ⊢
  rw [hR] at hr63 ⊢
  rw [hV]
  clear hA hR hV
  have lA := (Below.refl W.heap.size W).alloc (Nat.le_refl _) (.cells #[.slice oa A ca, .int .i64 V, .slice orr R cr] 72)
  have bA := Blk.new W [.slice oa A ca, .int .i64 V, .slice orr R cr] 72
  change Blk (W.alloc (.cells #[.slice oa A ca, .int .i64 V, .slice orr R cr] 72)) _ _ _ at bA
  rcases (show 6 < A ∨ (A ≤ 6 ∧ 6 < R) ∨ (A ≤ 6 ∧ R ≤ 6 ∧ V < -1) ∨ (A ≤ 6 ∧ R ≤ 6 ∧ -1 ≤ V ∧ (n : Int) ≤ V) ∨ (A ≤ 6 ∧ R ≤ 6 ∧ -1 ≤ V ∧ V < n) by omega) with h1 | ⟨h1, h2⟩ | ⟨h1, h2, h3⟩ | ⟨h1, h2, h3, h4⟩ | ⟨h1, h2, h3, h4⟩
  case inr.inr.inr.inr =>
   have HS2 := Lib.hid (show sigB n m = (m.args.all (idxB n) && (List.range R).all (raisesAt m.raises)) by
    rw [HS.out, decide_eq_true h1, decide_eq_true h2, show (decide (V = -1) || idxB n V) = true by
     unfold idxB
     by_cases hv : V = -1
     ·simp [hv]
     ·rw [decide_eq_true (p := 0 ≤ V ∧ V < n) (by omega), Bool.or_true]]
    simp)
   clear HS
   go_enter Tryz.func154, Tryz.ntmps154
   go_wp2
   generalize W.alloc (.cells #[.slice oa A ca, .int .i64 V, .slice orr R cr] 72) = A1 at lA bA ⊢
   have c0 : A1.cell? ⟨W.heap.size, 0, none⟩ = some (.slice oa A ca) := bA.cell 0
   have c2 : A1.cell? ⟨W.heap.size, 2, none⟩ = some (.slice orr R cr) := bA.cell 2
   have hata1 := fun i x h => (show ∃ b off, oa = some ⟨b, off, none⟩ ∧ IntAt A1 b (off + i * 1) x by obtain ⟨b, off, e, h⟩ := hata i x h; exact ⟨b, off, e, h.go (.below lA)⟩)
   have hatr1 := fun i x h => (show ∃ b off, orr = some ⟨b, off, none⟩ ∧ StrAt A1 b (off + i * 1) x by obtain ⟨b, off, e, h⟩ := hatr i x h; exact ⟨b, off, e, h.go (.below lA)⟩)
   clear bA hata hatr
   obtain ⟨bk, hbk⟩ : ∃ bk, W.heap.size = bk := ⟨_, rfl⟩
   rw [hbk] at c0 c2 ⊢
   have LA := hide lA
   clear lA
   go_loopg [5] A (fun g i wr => ∃ k : Nat, k ≤ A ∧ g = A - k ∧ i = .int .i64 k ∧ wr = A1 ∧ Hid ((m.args.take k).all (idxB n) = true))
   case atStart => exact ⟨0, Nat.zero_le _, rfl, rfl, rfl, Lib.hid rfl⟩
   case round =>
    obtain ⟨k, hk, hgk, rfl, rfl, HT⟩ := hrel
    by_cases hlt : k < A
    ·have hlt1 : k < m.args.length := by rw [HA.out]; exact hlt
     obtain ⟨b, off, rfl, e0⟩ := hata1 k m.args[k] (List.getElem?_eq_getElem hlt1)
     unfold IntAt at e0
     rw [Nat.mul_one] at e0
     have HNO := fun (h : idxB n m.args[k] = false) => Lib.hid (show sigB n m = false by rw [HS2.out, show m.args.all (idxB n) = false from List.all_eq_false.2 ⟨_, List.getElem_mem hlt1, by simp [h]⟩]; rfl)
     have HYE := fun (h : idxB n m.args[k] = true) => Lib.hid (show (m.args.take (k + 1)).all (idxB n) = true by rw [all_take _ _ _ hlt1, HT.out, h]; rfl)
     generalize m.args[k] = x at e0 HNO HYE
     have hlt' : (k : Int) < A := by omega
     clear hata1 HT
     rcases (show x < 0 ∨ (0 ≤ x ∧ (n : Int) ≤ x) ∨ (0 ≤ x ∧ x < n) by omega) with g1 | ⟨g1, g2⟩ | ⟨g1, g2⟩
     ·have HX := HNO (decide_eq_false (by omega))
      clear HNO HYE HS2 hatr1
      go_wp2
      go_ret
      exact ⟨ret_bool HX.out.symm, unhide LA⟩
     ·have HX := HNO (decide_eq_false (by omega))
      clear HNO HYE HS2 hatr1
      go_wp2
      go_ret
      exact ⟨ret_bool HX.out.symm, unhide LA⟩
     ·have HX := HYE (decide_eq_true ⟨g1, g2⟩)
      clear HNO HYE hatr1
      go_wp2
      go_roundg (A - (k + 1))
      case measure => omega
      case rel => exact ⟨k + 1, by omega, rfl, by go_num, rfl, HX⟩
    ·have hk2 : k = A := by omega
     have HS3 := Lib.hid (show sigB n m = (List.range R).all (raisesAt m.raises) by
      have h := HT.out
      rw [List.take_of_length_le (by have := HA.out; omega)] at h
      rw [HS2.out, h]; rfl)
     have hlt' : ¬ (k : Int) < A := by omega
     clear hata1 HT HS2 hk2 hgk hk hlt
     go_wp2
     go_loopg [6] R (fun g i w2 => ∃ k : Nat, k ≤ R ∧ g = R - k ∧ i = .int .i64 k ∧ Below W.heap.size W w2 ∧ Hide (Holds wr w2) ∧ Hid ((List.range k).all (raisesAt m.raises) = true))
     case atStart => exact ⟨0, Nat.zero_le _, rfl, rfl, unhide LA, hide (Holds.refl _), Lib.hid rfl⟩
     case round =>
      obtain ⟨k, hk, hgk, rfl, hbw, HH, HT⟩ := hrel
      rename_i w2 _ _ _ _
      have d2 := unhide HH _ _ c2
      have LB := hide (fun j => below_drewN' hbw j)
      have LC := hide hbw
      clear c2 c0 hbw
      by_cases hlt : k < R
      ·have hlt1 : k < m.raises.length := by rw [HR.out]; exact hlt
       obtain ⟨b, off, rfl, e0⟩ := hatr1 k m.raises[k] (List.getElem?_eq_getElem hlt1)
       unfold StrAt at e0
       rw [Nat.mul_one] at e0
       replace e0 := unhide HH _ _ e0
       have hsz := hz _ (List.getElem_mem hlt1)
       have hsy := fun w => (refSymbol_any m.raises[k] hsz w).mono fun e w' ⟨h1, h2⟩ => (show e = _ ∧ w = w' from ⟨h1, h2.symm⟩)
       have HNO := fun (h : raisesAt m.raises k = false) => Lib.hid (show sigB n m = false by rw [HS3.out, ← HR.out]; exact raises_no hlt1 h)
       have HYE := fun (h : raisesAt m.raises k = true) => Lib.hid (show (List.range (k + 1)).all (raisesAt m.raises) = true by rw [raises_next, HT.out, h]; rfl)
       have hra : raisesAt m.raises k = (excB (bs m.raises[k]) && (decide (k = 0) || match m.raises[k - 1]? with | none => true | some q => ltS q m.raises[k])) := by
        unfold raisesAt; rw [List.getElem?_eq_getElem hlt1]; rfl
       have he : (m.raises[k].toList == [65, 76, 69, 82, 84, 69, 68]) = (bs m.raises[k] == bs alertB) := by rw [toList_bs]; rfl
       have hex : excB (bs m.raises[k]) = ((bs m.raises[k] == bs alertB) || symB (bs m.raises[k])) := rfl
       rw [hex] at hra
       have hne : (m.raises[k].toList != [65, 76, 69, 82, 84, 69, 68]) = !(bs m.raises[k] == bs alertB) := by unfold bne; rw [he]
       generalize (bs m.raises[k] == bs alertB) = x at he hra hne
       generalize symB (bs m.raises[k]) = y at hsy hra
       have hlt' : (k : Int) < R := by omega
       clear HT HS3 hex
       rcases Nat.eq_zero_or_pos k with h0 | h0
       ·subst h0
        simp only [decide_true, Bool.true_or, Bool.and_true] at hra
        rw [hra] at HNO HYE
        rw [Nat.add_zero] at e0
        generalize m.raises[0] = r at e0 hsy he hne
        clear hra hatr1 hsz hlt1
        cases x <;> simp only [Bool.not_true, Bool.not_false] at hne
        ·cases y
         ·have HX := HNO rfl
          have HY := hide hsy
          clear HNO HYE hsy
          go_wp2
          go_quiet ((go_at_call 22; exact quiet_left (unhide HY _)))
          go_wp2
          go_ret
          exact ⟨ret_bool HX.out.symm, unhide LB _⟩
         ·have HX := HYE rfl
          have HY := hide hsy
          clear HNO HYE hsy
          go_wp2
          go_quiet ((go_at_call 22; exact quiet_left (unhide HY _)))
          go_wp2
          go_roundg (R - 1)
          case measure => omega
          case rel => exact ⟨1, by omega, rfl, by go_num, unhide LB _, hide (fun a v h => unhide HH a v h), HX⟩
        ·have HX := HYE rfl
         have HY := hide hsy
         clear HNO HYE hsy
         go_wp2
         go_quiet ((go_at_call 22; exact quiet_left (unhide HY _)))
         go_wp2
         go_roundg (R - 1)
         case measure => omega
         case rel => exact ⟨1, by omega, rfl, by go_num, unhide LB _, hide (fun a v h => unhide HH a v h), HX⟩
       ·obtain ⟨j, rfl⟩ : ∃ j, k = j + 1 := ⟨k - 1, by omega⟩
        have hjlt : j < m.raises.length := by omega
        obtain ⟨b2, off2, he2, f0⟩ := hatr1 j m.raises[j] (List.getElem?_eq_getElem hjlt)
        cases he2
        unfold StrAt at f0
        rw [Nat.mul_one] at f0
        replace f0 := unhide HH _ _ f0
        have hra2 : raisesAt m.raises (j + 1) = ((x || y) && ltS m.raises[j] m.raises[j + 1]) := by
         rw [hra, show j + 1 - 1 = j from rfl, List.getElem?_eq_getElem hjlt]; simp
        clear hra
        rw [hra2] at HNO HYE
        obtain ⟨z, hz1⟩ : ∃ z, ltS m.raises[j] m.raises[j + 1] = z := ⟨_, rfl⟩
        rw [hz1] at HNO HYE
        unfold ltS at hz1
        generalize m.raises[j + 1] = r at e0 hsy he hz1 hne
        generalize m.raises[j] = r0 at f0 hz1
        have hjR : (j : Int) + 1 < R := by omega
        have hj0 : (0 : Int) < (j : Int) + 1 := by omega
        have hj1 : decide ((0 : Int) < (j : Int) + 1) = true := decide_eq_true (by omega)
        have hge : ∀ w, Sem.run Tryz.prog (binOp BinOp.geq 9 (.string r0) (.string r)) w = .ok (.bool !z) w := fun w => by
         rw [← hz1]; rfl
        have HY := hide hsy
        clear hz1
        clear hra2 hatr1 hsz hlt1 hsy hjlt hlt' hlt h0
        cases x <;> cases y <;> cases z <;> simp only [Bool.not_true, Bool.not_false] at hne
        ·have HX := HNO rfl
         clear HNO HYE
         go_wp2
         go_quiet ((go_at_call 22; exact quiet_left (unhide HY _)))
         go_wp2
         go_ret
         exact ⟨ret_bool HX.out.symm, unhide LB _⟩
        ·have HX := HNO rfl
         clear HNO HYE
         go_wp2
         go_quiet ((go_at_call 22; exact quiet_left (unhide HY _)))
         go_wp2
         go_ret
         exact ⟨ret_bool HX.out.symm, unhide LB _⟩
        ·have HX := HNO rfl
         clear HNO HYE
         go_wp2
         go_quiet ((go_at_call 22; exact quiet_left (unhide HY _)))
         go_wp2
         go_ret
         exact ⟨ret_bool HX.out.symm, unhide LB _⟩
        ·have HX := HYE rfl
         clear HNO HYE
         go_wp2
         go_quiet ((go_at_call 22; exact quiet_left (unhide HY _)))
         go_wp2
         go_roundg (R - (j + 1 + 1))
         case measure => omega
         case rel => exact ⟨j + 1 + 1, by omega, rfl, by go_num, unhide LB _, hide (fun a v h => unhide HH a v h), HX⟩
        ·have HX := HNO rfl
         clear HNO HYE
         go_wp2
         go_quiet ((go_at_call 22; exact quiet_left (unhide HY _)))
         go_wp2
         go_ret
         exact ⟨ret_bool HX.out.symm, unhide LB _⟩
        ·have HX := HYE rfl
         clear HNO HYE
         go_wp2
         go_quiet ((go_at_call 22; exact quiet_left (unhide HY _)))
         go_wp2
         go_roundg (R - (j + 1 + 1))
         case measure => omega
         case rel => exact ⟨j + 1 + 1, by omega, rfl, by go_num, unhide LB _, hide (fun a v h => unhide HH a v h), HX⟩
        ·have HX := HNO rfl
         clear HNO HYE
         go_wp2
         go_quiet ((go_at_call 22; exact quiet_left (unhide HY _)))
         go_wp2
         go_ret
         exact ⟨ret_bool HX.out.symm, unhide LB _⟩
        ·have HX := HYE rfl
         clear HNO HYE
         go_wp2
         go_quiet ((go_at_call 22; exact quiet_left (unhide HY _)))
         go_wp2
         go_roundg (R - (j + 1 + 1))
         case measure => omega
         case rel => exact ⟨j + 1 + 1, by omega, rfl, by go_num, unhide LB _, hide (fun a v h => unhide HH a v h), HX⟩
      ·have hk2 : k = R := by omega
       have HX := Lib.hid (show sigB n m = true by rw [HS3.out, ← hk2]; exact HT.out)
       have hlt' : ¬ (k : Int) < R := by omega
       clear hatr1 HT HS3 hk2 hgk hk hlt HH
       go_wp2
       go_ret
       exact ⟨ret_bool HX.out.symm, by rw [← hbk]; exact unhide LC⟩
  all_goals
   have HX := Lib.hid (show sigB n m = false by
    rw [HS.out]
    unfold idxB
    first
     | rw [decide_eq_false (p := A ≤ 6) (by omega)]; simp
     | rw [decide_eq_false (p := R ≤ 6) (by omega)]; simp
     | rw [decide_eq_false (p := V = -1) (by omega), decide_eq_false (p := 0 ≤ V ∧ V < n) (by omega)]; simp)
   clear HS bA hata hatr HA HR
   go_enter Tryz.func154, Tryz.ntmps154
   go_wp2
   go_ret
   exact ⟨ret_bool HX.out.symm, lA⟩
end Go.Proofs.YteaokkaidcbdlaaGreatDoor

