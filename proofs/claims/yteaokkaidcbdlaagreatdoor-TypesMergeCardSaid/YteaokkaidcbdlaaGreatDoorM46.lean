/- Part 46 of 53: the texts Xf, one behind the other. -/
import Derived.Test.YteaokkaidcbdlaaGreatDoorM45
import Derived.Test.YteaokkaidcbdlaaGreatDoorM23
namespace Go.Proofs.YteaokkaidcbdlaaGreatDoor
open Go Go.RowKit Go.Shelf
theorem back_more {G : List TyD} {i : Nat} : ∀ (f a : Nat), backIn G i f a = true → backIn G i (f + 1) a = true
 | 0, a, h => by cases h
 | f + 1, a, h => by
   cases ha : G[a]? with
   | none => simp only [backIn, ha] at h; cases h
   | some t =>
     rw [backIn_at ha] at h ⊢
     rw [Bool.and_eq_true, Bool.or_eq_true] at h ⊢
     refine ⟨h.1, ?_⟩
     rcases h.2 with h | h
     ·exact .inl h
     ·exact .inr (back_more f _ h)
theorem back_path {G : List TyD} {i : Nat} : ∀ (f a : Nat), backIn G i (f + 1) a = true → backIn G i f a = false → a < G.length →
    (∀ (a : Nat) (t : TyD), G[a]? = some t → supB t.kind = true → t.super.toNat < G.length) → ∃ l : List Nat, l.length = f + 1 ∧ l.Nodup ∧ (∀ x ∈ l, x < G.length) ∧ ∀ x ∈ l, backIn G i (f + 1) x = true
  | 0, a, h, _, ha, _ => ⟨[a], rfl, by simp, by simpa using ha, by simpa using h⟩
  | f + 1, a, h, hn, ha, hs => by
    cases hat : G[a]? with
    | none => simp only [backIn, hat] at h; cases h
    | some t =>
      have h0 := h
      rw [backIn_at hat, Bool.and_eq_true, Bool.or_eq_true] at h
      have hn0 := hn
      rw [backIn_at hat, h.1, Bool.true_and, Bool.or_eq_false_iff] at hn
      have hb : backIn G i (f + 1) t.super.toNat = true := by
       rcases h.2 with h | h
       ·rw [hn.1] at h; cases h
       ·exact h
      obtain ⟨l, h1, h2, h3, h4⟩ := back_path f t.super.toNat hb hn.2 (hs a t hat h.1) hs
      refine ⟨a :: l, by simp [h1], ?_, ?_, ?_⟩
      ·rw [List.nodup_cons]
       refine ⟨fun hm => ?_, h2⟩
       rw [h4 a hm] at hn0; cases hn0
      ·intro x hx
       rcases List.mem_cons.1 hx with rfl | hx
       ·exact ha
       ·exact h3 x hx
      ·intro x hx
       rcases List.mem_cons.1 hx with rfl | hx
       ·exact h0
       ·exact back_more _ _ (h4 x hx)
theorem back_short {G : List TyD} {i : Nat} (hi : i < G.length) (hs : ∀ (a : Nat) (t : TyD), G[a]? = some t → supB t.kind = true → t.super.toNat < G.length) : backIn G i (G.length + 1) i = backIn G i G.length i := by
 cases h : backIn G i G.length i with
 | true => exact back_more _ _ h
 | false =>
   cases h1 : backIn G i (G.length + 1) i with
   | false => rfl
   | true =>
     obtain ⟨l, e1, e2, e3, _⟩ := back_path _ _ h1 h hi hs
     have := nodup_le G.length l e2 e3
     omega
theorem sup_in {G : List TyD} (hall : ∀ t ∈ G, tyB G t = true) : ∀ (a : Nat) (t : TyD), G[a]? = some t → supB t.kind = true → t.super.toNat < G.length := by
 intro a t hat hs
 have := superB_of (hall t (List.mem_of_getElem? hat)) hs
 unfold superB at this
 rw [Bool.and_eq_true] at this
 have := idxB_iff.1 this.1
 omega
set_option maxRecDepth 100000 in
set_option maxHeartbeats 16000000 in
theorem refCheck_any (gv : Value) (G : List TyD) (W : World) (hG0 : GrAt W gv G) (hz : GrZ G) :
    Calls Tryz.prog 16 #[gv] W fun e w' => e = .returned (.tuple #[.int .i64 (checkR G).1, .int .i64 (checkR G).2]) ∧ Below W.heap.size W w' := by
  have hlen := hz.len
  have HSaid := hide (fun w (h : Below W.heap.size W w) (t : TyD) (ht : t ∈ G) (vp vm vo : Value) (hl : TyL w vp vm vo t) => refSaid_any gv G t vp vm vo w (hG0.below h) hl (hz.tys _ ht).1 (hz.tys _ ht).2.2.2.2)
  obtain ⟨o, cap, rfl⟩ := hG0.form
  by_cases h4 : 400 < G.length
  ·have HR := Lib.hid (show checkR G = (400, 30) from if_pos h4)
   have h4' : (400 : Int) < G.length := by omega
   clear h4 hG0 HSaid
   go_enter Tryz.func16, Tryz.ntmps16
   go_wp2
   go_ret2
   exact ⟨by rw [HR.out]; rfl, Below.refl _ _⟩
  ·have h4' : ¬ (400 : Int) < G.length := by omega
   have HG := hide hG0
   obtain ⟨N, hN⟩ : ∃ N, G.length = N := ⟨_, rfl⟩
   have HN := Lib.hid hN
   rw [hN] at hlen h4' HSaid ⊢
   have HC := Lib.hid (show checkR G = if 0 ≤ firstNo (tyB G) G then (firstNo (tyB G) G, 30) else if 0 ≤ firstNo (aboveNo G) (List.range G.length) then (firstNo (aboveNo G) (List.range G.length), 30) else (0, 0) from if_neg h4)
   clear h4 hG0 hN
   go_enter Tryz.func16, Tryz.ntmps16
   go_wp2
   go_loopg [4] N (fun g i wr => ∃ k : Nat, k ≤ N ∧ g = N - k ∧ i = .int .i64 k ∧ Below W.heap.size W wr ∧ Hid ((G.take k).all (tyB G) = true))
   case atStart => exact ⟨0, Nat.zero_le _, rfl, rfl, Below.refl _ _, Lib.hid rfl⟩
   case round =>
    obtain ⟨k, hk, hgk, rfl, hbw, HT⟩ := hrel
    by_cases hlt : k < N
    ·have hkl : k < G.length := by rw [HN.out]; exact hlt
     have hlt' : (k : Int) < N := by omega
     obtain ⟨-, -, -, hat⟩ := ((unhide HG).below hbw).at
     obtain ⟨b, off, rfl, vp, vm, vo, hl, k0, k1, k2, k3, k4, k5, k6, k7, k8, k9⟩ := hat k G[k] (List.getElem?_eq_getElem hkl)
     have HS := unhide HSaid wr hbw _ (List.getElem_mem hkl) vp vm vo hl
     have HYE := fun (h : tyB G G[k] = true) => Lib.hid (show (G.take (k + 1)).all (tyB G) = true by rw [all_take _ _ _ hkl, HT.out, h]; rfl)
     have HNO := fun (h : tyB G G[k] = false) => Lib.hid (show checkR G = ((k : Int), 30) by
      have := firstNo_at hkl HT.out h
      rw [HC.out, this, if_pos (by omega)])
     obtain ⟨op, cp, rfl⟩ := hl.parts.form
     obtain ⟨om, cm, rfl⟩ := hl.meths.form
     obtain ⟨oo, co, rfl⟩ := hl.overs.form
     unfold tyVal at HS
     generalize tyB G G[k] = x at HS HYE HNO
     generalize G[k] = t at HS k0 k1 k2 k3 k4 k5 k6 k7 k8 k9
     have HS2 := hide HS
     have HB := hide hbw
     clear HS HT hl hat HSaid hbw
     cases x
     ·have HX := HNO rfl
      clear HYE HNO
      go_wp2_with (go_at_call 56; refine (unhide HS2).mono ?_; rintro e w5 ⟨rfl, hb5⟩)
      go_ret2
      exact ⟨by rw [HX.out]; rfl, (unhide HB).trans (hb5.mono (unhide HB).size)⟩
     ·have HX := HYE rfl
      clear HYE HNO
      go_wp2_with (go_at_call 56; refine (unhide HS2).mono ?_; rintro e w5 ⟨rfl, hb5⟩)
      go_roundg (N - (k + 1))
      case measure => omega
      case rel => exact ⟨k + 1, by omega, rfl, by go_num, (unhide HB).trans (hb5.mono (unhide HB).size), HX⟩
    ·have hk2 : k = N := by omega
     have hall : ∀ t ∈ G, tyB G t = true := by
      have h := HT.out
      rw [List.take_of_length_le (by have := HN.out; omega)] at h
      exact fun t ht => List.all_eq_true.1 h t ht
     have hlt' : ¬ (k : Int) < N := by omega
     have HC2 := Lib.hid (show checkR G = if 0 ≤ firstNo (aboveNo G) (List.range G.length) then (firstNo (aboveNo G) (List.range G.length), 30) else (0, 0) by
      rw [HC.out, firstNo_none (List.all_eq_true.2 hall), if_neg (by omega)])
     have HA := hide hall
     have HB := hide hbw
     clear HT HC hk2 hlt hk hgk HSaid hbw hall
     go_wp2
     go_loopg [5] N (fun g i w2 => ∃ q : Nat, q ≤ N ∧ g = N - q ∧ i = .int .i64 q ∧ wr = w2 ∧ Hid (((List.range G.length).take q).all (aboveNo G) = true))
     case atStart => exact ⟨0, Nat.zero_le _, rfl, rfl, rfl, Lib.hid rfl⟩
     case round =>
      obtain ⟨q, hq, hgq, rfl, rfl, HT⟩ := hrel
      by_cases hqlt : q < N
      ·have hql : q < G.length := by rw [HN.out]; exact hqlt
       have hqr : q < (List.range G.length).length := by rw [List.length_range]; exact hql
       have hq' : (q : Int) < N := by omega
       have HSH := Lib.hid (back_short hql (sup_in (unhide HA)))
       have HYE := fun (h : backIn G q (G.length + 1) q = false) => Lib.hid (show ((List.range G.length).take (q + 1)).all (aboveNo G) = true by
        rw [all_take _ _ _ hqr, HT.out, List.getElem_range, Bool.true_and]; unfold aboveNo; rw [← HSH.out, h]; rfl)
       have HNO := fun (h : backIn G q (G.length + 1) q = true) => Lib.hid (show checkR G = ((q : Int), 30) by
        have := firstNo_at hqr HT.out (show aboveNo G (List.range G.length)[q] = false by rw [List.getElem_range]; unfold aboveNo; rw [← HSH.out, h]; rfl)
        rw [HC2.out, this, if_pos (by omega)])
       rw [HN.out] at HYE HNO
       clear HT HSH
       have HGw := hide ((unhide HG).below (unhide HB))
       go_wp2
       go_loopg [6, 7] (N + 1) (fun g a i w3 => ∃ n x : Nat, n ≤ N + 1 ∧ g = N + 1 - n ∧ a = .int .i64 x ∧ i = .int .i64 n ∧ x < N ∧ wr = w3 ∧ Hid (backIn G q (N + 1) q = backIn G q (N + 1 - n) x))
       case atStart => exact ⟨0, q, Nat.zero_le _, rfl, rfl, rfl, hqlt, rfl, Lib.hid rfl⟩
       case round =>
        obtain ⟨n, x, hn, hgn, rfl, rfl, hx, rfl, HQ⟩ := hrel
        by_cases hnlt : n ≤ N
        ·have hxl : x < G.length := by rw [HN.out]; exact hx
         obtain ⟨-, -, -, hat⟩ := (unhide HGw).at
         obtain ⟨b, off, rfl, vp, vm, vo, -, k0, -, -, -, -, -, k6, -⟩ := hat x G[x] (List.getElem?_eq_getElem hxl)
         have hB : backIn G q (N + 1) q = (supB G[x].kind && (G[x].super.toNat == q || backIn G q (N - n) G[x].super.toNat)) := by
          rw [HQ.out, show N + 1 - n = (N - n) + 1 by omega, backIn_at (List.getElem?_eq_getElem hxl)]
         have hsu : supB G[x].kind = true → 0 ≤ G[x].super ∧ G[x].super < N := fun h => by
          have h1 := superB_of (unhide HA _ (List.getElem_mem hxl)) h
          unfold superB at h1
          rw [Bool.and_eq_true] at h1
          have := idxB_iff.1 h1.1
          rw [HN.out] at this; exact this
         generalize G[x].kind = K at k0 hB hsu
         generalize G[x].super = S at k6 hB hsu
         have hx' : (x : Int) < N := by omega
         have hn' : (n : Int) ≤ N := by omega
         clear hat HQ
         rcases (show K = 12 ∨ K = 13 ∨ (K ≠ 12 ∧ K ≠ 13) by omega) with rfl | rfl | ⟨h1, h2⟩
         case inr.inr =>
          have HX := HYE (by rw [hB, show supB K = false from decide_eq_false (by omega)]; rfl)
          have e1 : ((K : Int) == 12) = false := by simp; omega
          have e2 : ((K : Int) == 13) = false := by simp; omega
          clear HYE HNO hB hsu h1 h2 HG HGw HA
          go_wp2
          go_roundg (N - (q + 1))
          case measure => omega
          case rel => exact ⟨q + 1, by omega, rfl, by go_num, rfl, by rw [HN.out]; exact HX⟩
         all_goals
          obtain ⟨s1, s2⟩ := hsu rfl
          obtain ⟨s, rfl⟩ := Int.eq_ofNat_of_zero_le s1
          rw [show supB _ = true from rfl, Bool.true_and, Int.toNat_natCast] at hB
          by_cases hsq : s = q
          ·subst hsq
           have HX := HNO (by rw [hB]; simp)
           clear HYE HNO hB hsu HG HGw HA
           go_wp2
           go_ret2
           exact ⟨by rw [HX.out]; rfl, unhide HB⟩
          ·have HX := Lib.hid (show backIn G q (N + 1) q = backIn G q (N + 1 - (n + 1)) s by
             rw [hB, show (s == q) = false by simpa using hsq, Bool.false_or, show N + 1 - (n + 1) = N - n by omega])
           have e3 : ((s : Int) == q) = false := by simp; omega
           have hsN : s < N := by omega
           clear HYE HNO hB hsu hsq HG HGw HA
           go_wp2
           go_roundg (N + 1 - (n + 1))
           case measure => omega
           case rel => exact ⟨n + 1, s, by omega, rfl, rfl, by go_num, hsN, rfl, HX⟩
        ·have hnn : n = N + 1 := by omega
         have HX := HYE (by rw [HQ.out, hnn, Nat.sub_self]; rfl)
         have hn' : ¬ (n : Int) ≤ N := by omega
         clear HYE HNO HQ HG HGw HA hnn hnlt
         go_wp2
         go_roundg (N - (q + 1))
         case measure => omega
         case rel => exact ⟨q + 1, by omega, rfl, by go_num, rfl, by rw [HN.out]; exact HX⟩
      ·have hq2 : q = N := by omega
       have HX := Lib.hid (show checkR G = (0, 0) by
        have h := HT.out
        rw [List.take_of_length_le (by rw [List.length_range]; have := HN.out; omega)] at h
        rw [HC2.out, firstNo_none h, if_neg (by omega)])
       have hq' : ¬ (q : Int) < N := by omega
       clear HT HC2 hq2 hqlt
       go_wp2
       go_ret2
       exact ⟨by rw [HX.out]; rfl, unhide HB⟩
theorem check_err (G : List TyD) : (checkR G).2 = 0 ∨ (checkR G).2 = 30 := by
 unfold checkR
 split
 ·exact .inr rfl
 ·split
  ·exact .inr rfl
  ·split
   ·exact .inr rfl
   ·exact .inl rfl
set_option maxRecDepth 100000 in
set_option maxHeartbeats 4000000 in
theorem refChecked_any (gv : Value) (G : List TyD) (W : World) (hG0 : GrAt W gv G) (hz : GrZ G) (lv : Value) (l : List Int) (hl : SliceOf 1 (IntAt W) lv l) :
    Calls Tryz.prog 58 #[gv, lv] W fun e w' => e = .returned (.int .i64 (checkedR G l)) ∧ Below W.heap.size W w' := by
  have hC := hide (refCheck_any gv G W hG0 hz)
  have hE := check_err G
  obtain ⟨o, cap, rfl⟩ := hG0.form
  obtain ⟨lo, lc, rfl⟩ := hl.form
  obtain ⟨-, hlm, hlc, hat⟩ := hl.at
  have h63 : l.length ≤ 9223372036854775807 := by unfold maxLen at hlm; omega
  have hG63 : G.length ≤ 410 := hz.len
  clear hl hlm hlc hG0 hz
  obtain ⟨N, hN⟩ : ∃ N, G.length = N := ⟨_, rfl⟩
  obtain ⟨L, hL⟩ : ∃ L, l.length = L := ⟨_, rfl⟩
  have HL := Lib.hid hL
  have HD := Lib.hid (show checkedR G l = if (checkR G).2 ≠ 0 then (checkR G).2 else if l.all (idxB N) then 0 else 1 by unfold checkedR; rw [hN])
  rw [hN] at hC hG63 ⊢
  rw [hL] at h63 ⊢
  clear hN hL
  generalize (checkR G).1 = ci at hC
  rcases hE with h0 | h0
  ·rw [h0] at hC HD
   have HR := Lib.hid (show checkedR G l = if l.all (idxB N) then 0 else 1 by rw [HD.out]; simp)
   clear HD h0
   go_enter Tryz.func58, Tryz.ntmps58
   go_wp2_with (go_at_call 16; refine (unhide hC).mono ?_; rintro e w1 ⟨rfl, hb1⟩)
   have HB := hide hb1
   clear hC hb1
   go_loopg [7] L (fun g i wr => ∃ k : Nat, k ≤ L ∧ g = L - k ∧ i = .int .i64 k ∧ w1 = wr ∧ Hid ((l.take k).all (idxB N) = true))
   case atStart => exact ⟨0, Nat.zero_le _, rfl, rfl, rfl, Lib.hid rfl⟩
   case round =>
    obtain ⟨k, hk, hgk, rfl, rfl, HT⟩ := hrel
    by_cases hlt : k < L
    ·have hkl : k < l.length := by rw [HL.out]; exact hlt
     obtain ⟨b, off, rfl, e0⟩ := hat k l[k] (List.getElem?_eq_getElem hkl)
     unfold IntAt at e0
     rw [Nat.mul_one] at e0
     have d0 := Holds.below (unhide HB) _ _ e0
     have HNO := fun (h : idxB N l[k] = false) => Lib.hid (show checkedR G l = 1 by rw [HR.out, show l.all (idxB N) = false from List.all_eq_false.2 ⟨_, List.getElem_mem hkl, by simp [h]⟩]; rfl)
     have HYE := fun (h : idxB N l[k] = true) => Lib.hid (show (l.take (k + 1)).all (idxB N) = true by rw [all_take _ _ _ hkl, HT.out, h]; rfl)
     generalize l[k] = x at d0 HNO HYE e0
     have hlt' : (k : Int) < L := by omega
     clear hat HT e0
     rcases (show x < 0 ∨ (0 ≤ x ∧ (N : Int) ≤ x) ∨ (0 ≤ x ∧ x < N) by omega) with g1 | ⟨g1, g2⟩ | ⟨g1, g2⟩
     ·have HX := HNO (decide_eq_false (by omega))
      clear HNO HYE
      go_wp2
      go_ret
      exact ⟨ret_int HX.out.symm, unhide HB⟩
     ·have HX := HNO (decide_eq_false (by omega))
      clear HNO HYE
      go_wp2
      go_ret
      exact ⟨ret_int HX.out.symm, unhide HB⟩
     ·have HX := HYE (decide_eq_true ⟨g1, g2⟩)
      clear HNO HYE
      go_wp2
      go_roundg (L - (k + 1))
      case measure => omega
      case rel => exact ⟨k + 1, by omega, rfl, by go_num, rfl, HX⟩
    ·have hk2 : k = L := by omega
     have HX := Lib.hid (show checkedR G l = 0 by
      have h := HT.out
      rw [List.take_of_length_le (by have := HL.out; omega)] at h
      rw [HR.out, h]; rfl)
     have hlt' : ¬ (k : Int) < L := by omega
     clear HT hat hk2 hlt
     go_wp2
     go_ret
     exact ⟨ret_int HX.out.symm, unhide HB⟩
  ·rw [h0] at hC HD
   have HR := Lib.hid (show checkedR G l = 30 by rw [HD.out]; simp)
   clear HD h0
   go_enter Tryz.func58, Tryz.ntmps58
   go_wp2_with (go_at_call 16; refine (unhide hC).mono ?_; rintro e w1 ⟨rfl, hb1⟩)
   go_ret
   exact ⟨ret_int HR.out.symm, hb1⟩
end Go.Proofs.YteaokkaidcbdlaaGreatDoor

