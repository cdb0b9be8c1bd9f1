/- Part 36 of 53: the texts Xa, Xb, Yb, one behind the other. -/
import Derived.Test.YteaokkaidcbdlaaGreatDoorM35
import Derived.Test.YteaokkaidcbdlaaGreatDoorM9
namespace Go.Proofs.YteaokkaidcbdlaaGreatDoor
open Go Go.RowKit Go.Shelf
theorem namedFrom_append : ∀ (l r seen : List ByteArray), namedFrom seen (l ++ r) = (namedFrom seen l && namedFrom (seen ++ l) r)
 | [], r, seen => by simp [namedFrom]
 | x :: l, r, seen => by
   rw [List.cons_append, namedFrom_cons, namedFrom_cons, namedFrom_append l r (seen ++ [x]), List.append_assoc]
   simp [Bool.and_assoc]
theorem named_snoc (l : List ByteArray) (x : ByteArray) : namedFrom [] (l ++ [x]) = (namedFrom [] l && (nameB (bs x) && !Lib.containsS l x)) := by
 rw [namedFrom_append, List.nil_append, namedFrom_cons]
 simp [namedFrom]
theorem named_pre {l r : List ByteArray} (h : namedFrom [] l = false) : namedFrom [] (l ++ r) = false := by rw [namedFrom_append, h]; rfl
theorem named_take {α : Type} {f : α → ByteArray} {l : List α} {k : Nat} (h : namedFrom [] ((l.take k).map f) = false) : namedB (l.map f) = false := by
 unfold namedB
 rw [← List.take_append_drop k l, List.map_append, named_pre h, Bool.and_false]
theorem named_next {α : Type} {f : α → ByteArray} {l : List α} {k : Nat} (h : k < l.length) : namedFrom [] ((l.take (k + 1)).map f) = (namedFrom [] ((l.take k).map f) && (nameB (bs (f l[k])) && !Lib.containsS ((l.take k).map f) (f l[k]))) := by
 rw [List.take_succ_eq_append_getElem h, List.map_append, List.map_cons, List.map_nil, named_snoc]
theorem contains_no {l : List ByteArray} {x : ByteArray} (h : x ∉ l) : Lib.containsS l x = false := by
 cases hc : Lib.containsS l x with
 | false => rfl
 | true => exact absurd ((Lib.containsS_iff l x).1 hc) h
theorem not_mem_next {α : Type} {f : α → ByteArray} {l : List α} {j : Nat} {x : ByteArray} (h : j < l.length) (hx : x ∉ (l.take j).map f) (hne : f l[j] ≠ x) : x ∉ (l.take (j + 1)).map f := by
 rw [List.take_succ_eq_append_getElem h, List.map_append, List.map_cons, List.map_nil, List.mem_append, List.mem_singleton]
 rintro (h | h)
 ·exact hx h
 ·exact hne h.symm
theorem mem_take_at {α : Type} {f : α → ByteArray} {l : List α} {j k : Nat} (h : j < l.length) (hjk : j < k) : f l[j] ∈ (l.take k).map f :=
 List.mem_map_of_mem (by rw [List.mem_take_iff_getElem]; exact ⟨j, by omega, rfl⟩)
theorem neS {a b : ByteArray} (h : a ≠ b) : (a.toList == b.toList) = false :=
 beq_eq_false_iff_ne.2 (fun e => h (bs_ext (by unfold bs; rw [← ByteArray.toList_eq, ← ByteArray.toList_eq, e])))
def partsB (n : Nat) (ps : List PartD) : Bool := namedB (ps.map (·.name)) && ps.all fun p => idxB n p.type
set_option maxRecDepth 100000 in
set_option maxHeartbeats 8000000 in
theorem refParts_any (go : Option Addr) (n gc : Nat) (v : Value) (ps : List PartD) (W : World) (hP : SliceOf 2 (PartAt W) v ps) (hz : ∀ p ∈ ps, p.name.size ≤ maxLen) :
    Calls Tryz.prog 96 #[.slice go n gc, v] W fun e w' => e = .returned (.bool (partsB n ps)) ∧ Below W.heap.size W w' := by
  obtain ⟨o, cap, rfl⟩ := hP.form
  obtain ⟨_, hcm, hlc, hat⟩ := hP.at
  have h63 : ps.length ≤ 9223372036854775807 := by unfold maxLen at hcm; omega
  clear hP hcm hlc
  obtain ⟨N, hN⟩ : ∃ N, ps.length = N := ⟨_, rfl⟩
  have HN := Lib.hid hN
  rw [hN] at h63 ⊢
  clear hN
  go_enter Tryz.func96, Tryz.ntmps96
  go_wp2
  go_loopg [5] N (fun g i wr => ∃ k : Nat, k ≤ N ∧ g = N - k ∧ i = .int .i64 k ∧ Below W.heap.size W wr ∧ Hid (namedFrom [] ((ps.take k).map (·.name)) = true ∧ (ps.take k).all (fun p => idxB n p.type) = true))
  case atStart => exact ⟨0, Nat.zero_le _, rfl, rfl, Below.refl _ _, Lib.hid ⟨rfl, rfl⟩⟩
  case round =>
   obtain ⟨k, hk, hgk, rfl, hbw, HT⟩ := hrel
   by_cases hlt : k < N
   ·have hlt1 : k < ps.length := by rw [HN.out]; exact hlt
    obtain ⟨b, off, rfl, e0, e1⟩ := hat k ps[k] (List.getElem?_eq_getElem hlt1)
    have hsz := hz _ (List.getElem_mem hlt1)
    have HIN := fun (h : idxB n ps[k].type = false) => Lib.hid (show partsB n ps = false by
     unfold partsB; rw [show ps.all (fun p => idxB n p.type) = false from List.all_eq_false.2 ⟨_, List.getElem_mem hlt1, by simp [h]⟩, Bool.and_false])
    have HNN := fun (h : (nameB (bs ps[k].name) && !Lib.containsS ((ps.take k).map (·.name)) ps[k].name) = false) => Lib.hid (show partsB n ps = false by
     unfold partsB; rw [named_take (k := k + 1) (f := fun p : PartD => p.name) (by rw [named_next (f := fun p : PartD => p.name) hlt1, h, Bool.and_false])]; rfl)
    have HYY := fun (h1 : nameB (bs ps[k].name) = true) (h2 : ps[k].name ∉ (ps.take k).map (·.name)) (h3 : idxB n ps[k].type = true) =>
     Lib.hid (show namedFrom [] ((ps.take (k + 1)).map (·.name)) = true ∧ (ps.take (k + 1)).all (fun p => idxB n p.type) = true by
      refine ⟨by rw [named_next (f := fun p : PartD => p.name) hlt1, HT.out.1, h1, contains_no h2]; rfl, ?_⟩
      rw [all_take _ _ _ hlt1, HT.out.2, h3]; rfl)
    have HMEM := fun (j : Nat) (hj : j < ps.length) (hjk : j < k) => mem_take_at (f := fun p : PartD => p.name) hj hjk
    generalize ps[k] = x at e0 e1 hsz HIN HNN HYY
    have d0 := Holds.below hbw _ _ e0
    have d1 := Holds.below hbw _ _ e1
    have hnm := refName_any x.name hsz
    have hlt' : (k : Int) < N := by omega
    cases hnb : nameB (bs x.name) with
    | false =>
      rw [hnb] at hnm
      have HM := hide hnm
      have HX := HNN (by rw [hnb]; rfl)
      clear HIN HNN HYY HMEM hnm e0 e1 hat HT
      go_wp2_with (go_at_call 20; with_reducible refine (unhide HM _).mono ?_; rintro e w4 ⟨rfl, rfl⟩)
      go_ret
      exact ⟨ret_bool HX.out.symm, hbw⟩
    | true =>
      rw [hnb] at hnm
      have HM := hide hnm
      rcases (show x.type < 0 ∨ (0 ≤ x.type ∧ (n : Int) ≤ x.type) ∨ (0 ≤ x.type ∧ x.type < n) by omega) with h1 | ⟨h1, h2⟩ | ⟨h1, h2⟩
      ·have HX := HIN (decide_eq_false (by omega))
       clear HIN HNN HYY HMEM hnm e0 e1 hat HT
       go_wp2_with (go_at_call 20; with_reducible refine (unhide HM _).mono ?_; rintro e w4 ⟨rfl, rfl⟩)
       go_ret
       exact ⟨ret_bool HX.out.symm, hbw⟩
      ·have HX := HIN (decide_eq_false (by omega))
       clear HIN HNN HYY HMEM hnm e0 e1 hat HT
       go_wp2_with (go_at_call 20; with_reducible refine (unhide HM _).mono ?_; rintro e w4 ⟨rfl, rfl⟩)
       go_ret
       exact ⟨ret_bool HX.out.symm, hbw⟩
      ·have HY := fun h => HYY hnb h (decide_eq_true ⟨h1, h2⟩)
       have HNO := fun (h : Lib.containsS ((ps.take k).map (·.name)) x.name = true) => HNN (by rw [h, Bool.not_true, Bool.and_false])
       clear HIN HNN HYY hnm hnb HT
       go_wp2_with (go_at_call 20; with_reducible refine (unhide HM _).mono ?_; rintro e w4 ⟨rfl, rfl⟩)
       go_loopg [6] k (fun g i w2 => ∃ j : Nat, j ≤ k ∧ g = k - j ∧ i = .int .i64 j ∧ Below W.heap.size W w2 ∧ Hid (x.name ∉ (ps.take j).map (·.name)))
       case atStart => exact ⟨0, Nat.zero_le _, rfl, rfl, hbw, Lib.hid (by simp)⟩
       case round =>
        obtain ⟨j, hj, hgj, rfl, hbw2, HJ⟩ := hrel
        by_cases hjlt : j < k
        ·have hjlt1 : j < ps.length := by omega
         obtain ⟨b2, off2, he2, f0, f1⟩ := hat j ps[j] (List.getElem?_eq_getElem hjlt1)
         cases he2
         have c0 := Holds.below hbw2 _ _ e0
         have c2 := Holds.below hbw2 _ _ f0
         have HEQ := fun (h : ps[j].name = x.name) => HNO ((Lib.containsS_iff _ _).2 (h ▸ HMEM j hjlt1 hjlt))
         have HNE := fun (h : ps[j].name ≠ x.name) => Lib.hid (not_mem_next (f := fun p : PartD => p.name) hjlt1 HJ.out h)
         have hBD := fun nq => below_drewN' hbw2 nq
         generalize ps[j] = y at c2 HEQ HNE f0 f1
         have hjlt' : (j : Int) < k := by omega
         have hjN : (j : Int) < N := by omega
         clear hat HNO HMEM HY HJ e0 e1 f0 f1 d0 d1 HM hz
         by_cases hxy : y.name = x.name
         ·have HZ := HEQ hxy
          rw [hxy] at c2
          clear HEQ HNE hxy
          generalize x.name = s at c0 c2
          go_wp2
          go_quiet (fail)
          go_wp2
          go_ret
          exact ⟨ret_bool HZ.out.symm, hBD _⟩
         ·have HZ := HNE hxy
          have hne : (y.name.toList == x.name.toList) = false := neS hxy
          clear HEQ HNE hxy
          go_wp2
          go_quiet (fail)
          go_wp2
          go_roundg (k - (j + 1))
          case measure => omega
          case rel => exact ⟨j + 1, by omega, rfl, by go_num, hBD nq, HZ⟩
        ·obtain rfl : j = k := by omega
         have HZ := HY HJ.out
         clear hat HNO HMEM HY HJ e0 e1 d0 d1 HM hz
         go_wp2
         go_roundg (N - (j + 1))
         case measure => omega
         case rel => exact ⟨j + 1, by omega, rfl, by go_num, hbw2, HZ⟩
   ·obtain rfl : k = N := by omega
    have HX := Lib.hid (show partsB n ps = decide (k ≤ 8) by
     have h := HT.out
     rw [List.take_of_length_le (by have := HN.out; omega)] at h
     unfold partsB namedB
     rw [h.1, h.2, List.length_map, HN.out, Bool.and_true, Bool.and_true])
    clear HT hat
    go_wp2
    go_ret
    exact ⟨ret_bool (by rw [HX.out]; simp; omega), hbw⟩
end Go.Proofs.YteaokkaidcbdlaaGreatDoor

namespace Go.Proofs.YteaokkaidcbdlaaGreatDoor
open Go Go.RowKit Go.Shelf
set_option maxRecDepth 100000 in
set_option maxHeartbeats 8000000 in
theorem refSuper_any (gv : Value) (G : List TyD) (t : TyD) (op om oo : Option Addr) (np cp nm cm no co : Nat) (W : World) (hG : GrAt W gv G) (htk : t.kind < 256) :
    Calls Tryz.prog 97 #[gv, tyVal t (.slice op np cp) (.slice om nm cm) (.slice oo no co)] W fun e w' => e = .returned (.bool (superB G t)) ∧ Below W.heap.size W w' := by
  obtain ⟨o, cap, rfl⟩ := hG.form
  obtain ⟨_, _, _, hat⟩ := hG.at
  unfold tyVal
  have bA := Blk.new W [.int .u8 t.kind, .int .i64 t.low, .int .i64 t.high, .bool t.branded, .string t.brand, .string t.opq, .int .i64 t.super, .slice op np cp, .slice om nm cm, .slice oo no co] 62
  have lA := (Below.refl W.heap.size W).alloc (Nat.le_refl _) (.cells #[.int .u8 t.kind, .int .i64 t.low, .int .i64 t.high, .bool t.branded, .string t.brand, .string t.opq, .int .i64 t.super, .slice op np cp, .slice om nm cm, .slice oo no co] 62)
  change Blk (W.alloc (.cells #[.int .u8 t.kind, .int .i64 t.low, .int .i64 t.high, .bool t.branded, .string t.brand, .string t.opq, .int .i64 t.super, .slice op np cp, .slice om nm cm, .slice oo no co] 62)) _ _ _ at bA
  have HS := Lib.hid (show superB G t = (idxB G.length t.super && aboveB (kindAt G t.super) t.kind) from rfl)
  obtain ⟨N, hN⟩ : ∃ N, G.length = N := ⟨_, rfl⟩
  rw [hN] at HS ⊢
  rcases (show t.super < 0 ∨ (0 ≤ t.super ∧ (N : Int) ≤ t.super) ∨ (0 ≤ t.super ∧ t.super < N) by omega) with h1 | ⟨h1, h2⟩ | ⟨h1, h2⟩
  ·have HX := Lib.hid (show superB G t = false by rw [HS.out, show idxB N t.super = false from decide_eq_false (by omega)]; rfl)
   clear HS hat hG hN
   go_enter Tryz.func97, Tryz.ntmps97
   go_wp2
   go_ret
   exact ⟨ret_bool HX.out.symm, lA⟩
  ·have HX := Lib.hid (show superB G t = false by rw [HS.out, show idxB N t.super = false from decide_eq_false (by omega)]; rfl)
   clear HS hat hG hN
   go_enter Tryz.func97, Tryz.ntmps97
   go_wp2
   go_ret
   exact ⟨ret_bool HX.out.symm, lA⟩
  ·obtain ⟨s, hs⟩ := Int.eq_ofNat_of_zero_le h1
   have hsl : s < G.length := by omega
   obtain ⟨b, off, rfl, vp, vm, vo, _, d0, _⟩ := hat s G[s] (List.getElem?_eq_getElem hsl)
   have HK : kindAt G t.super = G[s].kind := by unfold kindAt; rw [hs]; simp [hsl]
   have e0 := Holds.below lA _ _ d0
   have HX := Lib.hid (show superB G t = aboveB G[s].kind t.kind by rw [HS.out, HK, show idxB N t.super = true from decide_eq_true (by omega)]; rfl)
   generalize G[s].kind = K at e0 HX
   have hsN : (s : Int) < N := by omega
   rw [hs] at e0 bA lA ⊢
   generalize t.super = sp at *
   subst hs
   clear d0 HK hat hG hN h1 h2 HS bA
   generalize hT : t.kind = T at *
   rcases (show (K ≠ 12 ∧ K ≠ 6 ∧ K ≠ 7 ∧ K ≠ 8 ∧ K ≠ 13 ∧ K ≠ 4) ∨ (K = 4 ∧ T ≠ 13) ∨ K = 12 ∨ K = 6 ∨ K = 7 ∨ K = 8 ∨ K = 13 ∨ (K = 4 ∧ T = 13) by omega) with ⟨f1, f2, f3, f4, f5, f6⟩ | ⟨rfl, h⟩ | rfl | rfl | rfl | rfl | rfl | ⟨rfl, h⟩
   ·have HY := Lib.hid (show superB G t = false by rw [HX.out]; unfold aboveB; exact decide_eq_false (by omega))
    have g1 : ((K : Int) == 12) = false := by simp; omega
    have g2 : ((K : Int) == 6) = false := by simp; omega
    have g3 : ((K : Int) == 7) = false := by simp; omega
    have g4 : ((K : Int) == 8) = false := by simp; omega
    have g5 : ((K : Int) == 13) = false := by simp; omega
    have g6 : ((K : Int) == 4) = false := by simp; omega
    clear hT f1 f2 f3 f4 f5 f6 HX
    go_enter Tryz.func97, Tryz.ntmps97
    go_wp2
    go_ret
    exact ⟨ret_bool HY.out.symm, lA⟩
   ·have HY := Lib.hid (show superB G t = false by rw [HX.out]; unfold aboveB; exact decide_eq_false (by omega))
    have g6 : ((T : Int) == 13) = false := by simp; omega
    clear hT h HX
    go_enter Tryz.func97, Tryz.ntmps97
    go_wp2
    go_ret
    exact ⟨ret_bool HY.out.symm, lA⟩
   case inr.inr.inr.inr.inr.inr.inr =>
    have HY := Lib.hid (show superB G t = true by rw [HX.out]; unfold aboveB; exact decide_eq_true (by omega))
    have g6 : ((T : Int) == 13) = true := by simp; omega
    clear hT h HX
    go_enter Tryz.func97, Tryz.ntmps97
    go_wp2
    go_ret
    exact ⟨ret_bool HY.out.symm, lA⟩
   all_goals
    have HY := Lib.hid (show superB G t = true by rw [HX.out]; unfold aboveB; exact decide_eq_true (by omega))
    clear hT HX
    go_enter Tryz.func97, Tryz.ntmps97
    go_wp2
    go_ret
    exact ⟨ret_bool HY.out.symm, lA⟩
end Go.Proofs.YteaokkaidcbdlaaGreatDoor

namespace Go.Proofs.YteaokkaidcbdlaaGreatDoor
open Go Go.RowKit Go.Shelf
theorem eqF_at {α : Type} {f : α → α → Bool} {l m : List α} (hl : l.length = m.length) : eqF f l m = (l.zip m).all (fun x => f x.1 x.2) := by unfold eqF; rw [decide_eq_true hl, Bool.true_and]
theorem zip_take_next {α : Type} {f : α → α → Bool} {l m : List α} {k : Nat} (h1 : k < l.length) (h2 : k < m.length) : ((l.zip m).take (k + 1)).all (fun x => f x.1 x.2) = (((l.zip m).take k).all (fun x => f x.1 x.2) && f l[k] m[k]) := by
 rw [all_take _ _ _ (by rw [List.length_zip]; omega)]; simp
theorem zip_all_no {α : Type} {f : α → α → Bool} {l m : List α} {k : Nat} (h1 : k < l.length) (h2 : k < m.length) (h : f l[k] m[k] = false) : (l.zip m).all (fun x => f x.1 x.2) = false := by
 rw [List.all_eq_false]
 exact ⟨(l[k], m[k]), by rw [List.mem_iff_getElem]; exact ⟨k, by rw [List.length_zip]; omega, by simp⟩, by simp [h]⟩
set_option maxRecDepth 100000 in
theorem refStrings_any (va vb : Value) (xs ys : List ByteArray) (W : World) (ha : SliceOf 1 (StrAt W) va xs) (hb : SliceOf 1 (StrAt W) vb ys) :
    Calls Tryz.prog 89 #[va, vb] W fun e w' => e = .returned (.bool (eqF sameS xs ys)) ∧ Below W.heap.size W w' := by
  obtain ⟨o, cap, rfl⟩ := ha.form
  obtain ⟨o2, cap2, rfl⟩ := hb.form
  obtain ⟨-, hm, hl, hat⟩ := ha.at
  obtain ⟨-, hm2, hl2, hat2⟩ := hb.at
  have h63 : xs.length ≤ 9223372036854775807 := by unfold maxLen at hm; omega
  have h632 : ys.length ≤ 9223372036854775807 := by unfold maxLen at hm2; omega
  clear ha hb hm hm2 hl hl2
  obtain ⟨n, hn⟩ : ∃ n, xs.length = n := ⟨_, rfl⟩
  obtain ⟨n2, hn2⟩ : ∃ n2, ys.length = n2 := ⟨_, rfl⟩
  have HN := Lib.hid hn
  have HN2 := Lib.hid hn2
  rw [hn] at h63 ⊢
  rw [hn2] at h632 ⊢
  clear hn hn2
  by_cases hne : n = n2
  ·subst hne
   have HE := Lib.hid (eqF_at (f := sameS) (l := xs) (m := ys) (by rw [HN.out, HN2.out]))
   go_enter Tryz.func89, Tryz.ntmps89
   go_wp2
   go_loopg [5] n (fun g i wr => ∃ k : Nat, k ≤ n ∧ g = n - k ∧ i = .int .i64 k ∧ Below W.heap.size W wr ∧ Hid (((xs.zip ys).take k).all (fun x => sameS x.1 x.2) = true))
   case atStart => exact ⟨0, Nat.zero_le _, rfl, rfl, Below.refl _ _, Lib.hid rfl⟩
   case round =>
    obtain ⟨k, hk, hgk, rfl, hbw, HT⟩ := hrel
    by_cases hlt : k < n
    ·have h1 : k < xs.length := by rw [HN.out]; exact hlt
     have h2 : k < ys.length := by rw [HN2.out]; exact hlt
     obtain ⟨b, off, rfl, e0⟩ := hat k xs[k] (List.getElem?_eq_getElem h1)
     obtain ⟨b2, off2, rfl, f0⟩ := hat2 k ys[k] (List.getElem?_eq_getElem h2)
     replace e0 := e0.go (.below hbw)
     replace f0 := f0.go (.below hbw)
     have hBD := fun nq => below_drewN' hbw nq
     unfold StrAt at e0 f0
     simp only [Nat.mul_one] at e0 f0
     have HX := fun (h : sameS xs[k] ys[k] = false) => Lib.hid (show eqF sameS xs ys = false by rw [HE.out]; exact zip_all_no h1 h2 h)
     have HY := fun (h : sameS xs[k] ys[k] = true) => Lib.hid (show ((xs.zip ys).take (k + 1)).all (fun x => sameS x.1 x.2) = true by rw [zip_take_next (f := sameS) h1 h2, HT.out, h]; rfl)
     generalize xs[k] = x at e0 HX HY
     generalize ys[k] = y at f0 HX HY
     have hlt' : (k : Int) < n := by omega
     clear hat hat2 HN HN2 h1 h2 HT
     have hs : (x.toList == y.toList) = sameS x y := rfl
     have hsn : (x.toList != y.toList) = !sameS x y := rfl
     cases hxy : sameS x y
     ·have HZ := HX hxy
      rw [hxy] at hs hsn
      clear HX HY hxy
      go_wp2
      go_quiet (fail)
      go_wp2
      go_ret
      exact ⟨ret_bool HZ.out.symm, hBD _⟩
     ·have HZ := HY hxy
      rw [hxy] at hs hsn
      clear HX HY hxy
      go_wp2
      go_quiet (fail)
      go_wp2
      go_roundg (n - (k + 1))
      case measure => omega
      case rel => exact ⟨k + 1, by omega, rfl, by go_num, hBD nq, HZ⟩
    ·have hk2 : k = n := by omega
     have HZ := Lib.hid (show eqF sameS xs ys = true by
      rw [HE.out]
      have h := HT.out
      rw [List.take_of_length_le (by rw [List.length_zip, HN.out, HN2.out]; omega)] at h
      exact h)
     have hlt' : ¬ (k : Int) < n := by omega
     clear hat hat2 HT hk2 hlt
     go_wp2
     go_ret
     exact ⟨ret_bool HZ.out.symm, hbw⟩
  ·have HZ := Lib.hid (show eqF sameS xs ys = false by unfold eqF; rw [decide_eq_false (by rw [HN.out, HN2.out]; exact hne)]; rfl)
   have hne' : ((n : Int) == n2) = false := by simp; omega
   have hne2 : ((n : Int) != n2) = true := by unfold bne; rw [hne']; rfl
   clear hat hat2 hne
   go_enter Tryz.func89, Tryz.ntmps89
   go_wp2
   go_ret
   exact ⟨ret_bool HZ.out.symm, Below.refl _ _⟩
end Go.Proofs.YteaokkaidcbdlaaGreatDoor

