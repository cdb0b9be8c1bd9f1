/- Part 46 of 51: the texts Av, Xa, one behind the other. -/
import Derived.Test.YteaokkaidcbdlaaGreatDoorQ45
import Derived.Tactics
import Derived.Tactics2
import Derived.WalkKit
import Derived.LoopTactic
import Derived.Outline
import Derived.Lib.Hide
import Derived.Handy
import Derived.KernelRfl
import Derived.Deep.LoopGhost
import Derived.CallsIn
import Derived.Deep.QuietTactic
import Derived.BigQuiet
import Derived.Deep.Draws
import Derived.WalkSpells
import Derived.Lib.Walk
import Derived.Lib.Strings
import Derived.Maps.OwnOps
import Derived.Maps.OwnSet
import Derived.Deep.RegionWith
import Derived.StillTailTactics
import Derived.WalkMore
import Derived.RangeFuncNested
import Derived.RangeFuncBound
import Derived.RangeFuncCalls
import Derived.RangeFuncLeaves
import Derived.RangeFuncBox
import Derived.Shelf.Abstract
import Derived.OwnWalkIn
import Derived.TacticsInMore
import Derived.LoopNIn
import Derived.LoopIn
import Derived.RecoverIn
import Derived.Maps.AppendAt
import Derived.RegionTactic
import Derived.ChangeAlike
import Derived.OwnWalk
import Derived.Deep.AppendLies
import Derived.Deep.DeepCutAuto
import Derived.Deep.RegionLaw
import Derived.Deep.RegionHeld3
import Derived.Laws.EntriesVeiled
/- alive (14): the chapter's examples. -/
namespace Go.Proofs.YteaokkaidcbdlaaGreatDoor
open Go Go.RowKit Go.Shelf
/-! ### alive (14) -/
set_option maxRecDepth 100000
theorem l_e12 (gv : Value) (w : World) (h : GrAt w gv listsG) : Calls Tryz.prog 23 #[gv, .int .i64 1, .int .i64 2] w fun e w' => e = .returned (.tuple #[.bool true, .int .i64 0]) ∧ Below w.heap.size w w' := by
  have := equal_all gv listsG 1 2 w h lists_z; rw [v_12] at this; exact this
theorem l_e16 (gv : Value) (w : World) (h : GrAt w gv listsG) : Calls Tryz.prog 23 #[gv, .int .i64 1, .int .i64 6] w fun e w' => e = .returned (.tuple #[.bool false, .int .i64 0]) ∧ Below w.heap.size w w' := by
  have := equal_all gv listsG 1 6 w h lists_z; rw [v_16] at this; exact this
theorem l_ap (gv : Value) (w : World) (h : GrAt w gv listsG) : Calls Tryz.prog 27 #[gv, .int .i64 1, .int .i64 6] w fun e w' =>
    ∃ g k, e = .returned (.tuple #[.slice (some ⟨g, 0, none⟩) 1 k, .bool true, .int .i64 0]) ∧ w'.cell? ⟨g, 0, none⟩ = some (.int .i64 0) ∧ Below w.heap.size w w' := by
  have := apart_all gv listsG 1 6 w h lists_z
  rw [v_ap] at this
  refine this.mono ?_
  rintro e w' ⟨v, he, hr, hb⟩
  change w'.ownsRow w.heap.size 3 1 v 1 [.int .i64 0] at hr
  obtain ⟨o, k, rfl⟩ := row_form hr
  obtain ⟨g, rfl⟩ := row_some hr (by decide)
  exact ⟨g, k, he, Row1.cells hr 0 (by decide), hb⟩
theorem l_ck (gv wv : Value) (w : World) (h : GrAt w gv listsG) (hw : SliceOf 1 (IntAt w) wv [1, 0]) : Calls Tryz.prog 29 #[gv, .int .i64 1, .int .i64 6, wv] w fun e w' => e = .returned (.tuple #[.bool true, .int .i64 0]) ∧ Below w.heap.size w w' := by
  have := checkApart_all gv wv listsG 1 6 [1, 0] w h lists_z hw; rw [v_ck] at this; exact this
theorem l_mg (gv : Value) (w : World) (h : GrAt w gv listsG) : Calls Tryz.prog 34 #[gv] w fun e w' =>
    ∃ o c g k, e = .returned (.tuple #[.slice o 5 c, .slice (some ⟨g, 0, none⟩) 7 k, .int .i64 0]) ∧ w'.cell? ⟨g, 3, none⟩ = some (.int .i64 1) ∧ Below w.heap.size w w' := by
  have := merge_any gv listsG w h lists_z
  rw [v_ok, v_ml] at this
  refine this.mono ?_
  rintro e w' ⟨v, m, he, hb, hc⟩
  obtain ⟨⟨es, hes, hown⟩, hr⟩ := (if_pos rfl ▸ hc : _)
  have hl : es.length = 5 := by rw [← v_mt, ← hes, List.length_map]
  have hrow := hown.row
  rw [hl] at hrow
  obtain ⟨o, c, rfl⟩ := row_form hrow
  change w'.ownsRow w.heap.size 3 1 m 7 _ at hr
  obtain ⟨o2, k, rfl⟩ := row_form hr
  obtain ⟨g, rfl⟩ := row_some hr (by decide)
  exact ⟨o, c, g, k, he, Row1.cells hr 3 (by decide), hb⟩
def t3S : ByteArray := ⟨#[49, 48, 32, 45, 32, 104, 101, 97, 100, 58, 49, 32, 116, 97, 105, 108, 58, 48, 10, 49, 10]⟩
theorem l_t3 (gv : Value) (w : World) (h : GrAt w gv listsG) (hp : P10 w.heap.size w) : Calls Tryz.prog 42 #[gv, .int .i64 3] w fun e w' =>
    e = .returned (.tuple #[.string ⟨#[49, 48, 32, 45, 32, 104, 101, 97, 100, 58, 49, 32, 116, 97, 105, 108, 58, 48, 10, 49, 10]⟩, .int .i64 0]) ∧ Below w.heap.size w w' := by
  have := text_all gv listsG 3 w h lists_z hp; rw [v_t3] at this; exact this
theorem l_pr (gv : Value) (w : World) (h : GrAt w gv listsG) (hp : P10 w.heap.size w) : Calls Tryz.prog 44 #[gv, .int .i64 0] w fun e w' =>
    e = .returned (.tuple #[.string ⟨(digestL (bs ⟨#[49, 10]⟩)).toArray⟩, .int .i64 0]) ∧ Below w.heap.size w w' := by
  have := print_any gv listsG 0 w h lists_z hp (by rw [v_t0]; exact (show (2 : Nat) ≤ maxLen by unfold maxLen; omega))
  rw [show printL listsG 0 = (⟨(digestL (bs ⟨#[49, 10]⟩)).toArray⟩, 0) by unfold printL; rw [v_t0]; rfl] at this; exact this
theorem l_d1 (w : World) : Calls Tryz.prog 48 #[.string ⟨#[49, 10]⟩] w fun e w' => e = .returned (.string ⟨(digestL (bs ⟨#[49, 10]⟩)).toArray⟩) ∧ Below w.heap.size w w' :=
  digest_any ⟨#[49, 10]⟩ (show (2 : Nat) ≤ maxLen by unfold maxLen; omega) w
theorem l_d0 (w : World) : Calls Tryz.prog 48 #[.string ⟨#[]⟩] w fun e w' => e = .returned (.string ⟨#[84, 48, 48, 48, 48, 48, 48, 48, 48, 48, 52, 53, 72]⟩) ∧ Below w.heap.size w w' := by
  have := digest_any ⟨#[]⟩ (Nat.zero_le _) w; rw [v_d0] at this; exact this
theorem P10.more {w w' : World} (h : P10 w.heap.size w) (hb : Below w.heap.size w w') : P10 w'.heap.size w' := by
  obtain ⟨ht, g, hg, hlt⟩ := h.below hb
  exact ⟨ht, g, hg, Nat.lt_of_lt_of_le hlt hb.size⟩
set_option maxHeartbeats 8000000 in
theorem alive_any (W : World) (hP : P10 W.heap.size W) : Calls Tryz.prog 14 #[] W fun e w' => e = .returned (.bool true) ∧ Below W.heap.size W w' := by
  have HL := hide (lists_any W)
  have HP := hide hP
  clear hP
  go_enter Tryz.func14, Tryz.ntmps14
  go_wp2_with fail
  refine (unhide HL).mono ?_
  rintro e w1 ⟨gv, rfl, hg1, hb1⟩
  obtain ⟨o, cap, rfl⟩ := hg1.form
  have HG1 := hide hg1
  have HP1 := hide ((unhide HP).more hb1)
  clear hg1 HL
  go_wp2_with fail
  with_reducible refine (l_e12 _ _ (unhide HG1)).mono ?_
  rintro e w2 ⟨rfl, hb2⟩
  have HG2 := hide ((unhide HG1).below hb2)
  go_wp2_with fail
  with_reducible refine (l_e16 _ _ (unhide HG2)).mono ?_
  rintro e w3 ⟨rfl, hb3⟩
  have HG3 := hide ((unhide HG2).below hb3)
  go_wp2_with fail
  with_reducible refine (l_ap _ _ (unhide HG3)).mono ?_
  rintro e w4 ⟨gA, kA, rfl, hcA, hb4⟩
  have HG4 := hide ((unhide HG3).below hb4)
  have HP4 := hide ((((unhide HP1).more hb2).more hb3).more hb4)
  have L4 := hide (((hb1.trans (hb2.mono hb1.size)).trans (hb3.mono (Nat.le_trans hb1.size hb2.size))).trans (hb4.mono (Nat.le_trans (Nat.le_trans hb1.size hb2.size) hb3.size)))
  clear HG1 HG2 HG3 HP1 hb1 hb2 hb3 hb4
  go_wp2_with fail
  have b5 := Blk.new w4 [.int .i64 1, .int .i64 0] 3
  change Blk (w4.alloc (.cells #[.int .i64 1, .int .i64 0] 3)) _ _ _ at b5
  have l5 := (Below.refl w4.heap.size w4).alloc (Nat.le_refl _) (.cells #[.int .i64 1, .int .i64 0] 3)
  generalize w4.alloc (.cells #[.int .i64 1, .int .i64 0] 3) = w5 at b5 l5 ⊢
  have HG5 := hide ((unhide HG4).below l5)
  have HP5 := hide ((unhide HP4).more l5)
  have L5 := hide ((unhide L4).trans (l5.mono (unhide L4).size))
  have hw : SliceOf 1 (IntAt w5) (.slice (some ⟨w4.heap.size, 0, none⟩) 2 2) [1, 0] := by
    refine ⟨some ⟨w4.heap.size, 0, none⟩, 2, rfl, Nat.le_refl _, by decide, fun q x hx => ⟨_, 0, rfl, ?_⟩⟩
    unfold IntAt
    match q with
    | 0 => simp at hx; subst hx; exact b5.cell 0
    | 1 => simp at hx; subst hx; exact b5.cell 1
    | q + 2 => simp at hx
  have hcA5 : w5.cell? ⟨gA, 0, none⟩ = some (.int .i64 0) := Holds.below l5 _ _ hcA
  with_reducible refine (l_ck _ _ _ (unhide HG5) hw).mono ?_
  rintro e w6 ⟨rfl, hb6⟩
  have HG6 := hide ((unhide HG5).below hb6)
  have HP6 := hide ((unhide HP5).more hb6)
  have L6 := hide ((unhide L5).trans (hb6.mono (unhide L5).size))
  have hcA6 : w6.cell? ⟨gA, 0, none⟩ = some (.int .i64 0) := Holds.below hb6 _ _ hcA5
  clear hw b5 l5 HG4 HP4 L4 HG5 HP5 L5 hcA hcA5 hb6
  go_wp2_with fail
  with_reducible refine (l_mg _ _ (unhide HG6)).mono ?_
  rintro e w7 ⟨oM, cM, gM, kM, rfl, hcM, hb7⟩
  have HG7 := hide ((unhide HG6).below hb7)
  have HP7 := hide ((unhide HP6).more hb7)
  have L7 := hide ((unhide L6).trans (hb7.mono (unhide L6).size))
  have hcA7 : w7.cell? ⟨gA, 0, none⟩ = some (.int .i64 0) := Holds.below hb7 _ _ hcA6
  clear HG6 HP6 L6 hcA6 hb7
  go_wp2_with fail
  with_reducible refine (l_t3 _ _ (unhide HG7) (unhide HP7)).mono ?_
  rintro e w8 ⟨rfl, hb8⟩
  have HG8 := hide ((unhide HG7).below hb8)
  have HP8 := hide ((unhide HP7).more hb8)
  have L8 := hide ((unhide L7).trans (hb8.mono (unhide L7).size))
  have hcA8 : w8.cell? ⟨gA, 0, none⟩ = some (.int .i64 0) := Holds.below hb8 _ _ hcA7
  have hcM8 : w8.cell? ⟨gM, 3, none⟩ = some (.int .i64 1) := Holds.below hb8 _ _ hcM
  clear HG7 HP7 L7 hcA7 hcM hb8
  have HPR := hide (l_pr (.slice o listsG.length cap) w8 (unhide HG8) (unhide HP8))
  have HD1 := hide l_d1
  obtain ⟨D, hD⟩ : ∃ D, (⟨(digestL (bs ⟨#[49, 10]⟩)).toArray⟩ : ByteArray) = D := ⟨_, rfl⟩
  rw [hD] at HPR HD1
  clear hD
  go_wp2_with fail
  with_reducible refine (unhide HPR).mono ?_
  rintro e w9 ⟨rfl, hb9⟩
  have L9 := hide ((unhide L8).trans (hb9.mono (unhide L8).size))
  have hcA9 : w9.cell? ⟨gA, 0, none⟩ = some (.int .i64 0) := Holds.below hb9 _ _ hcA8
  have hcM9 : w9.cell? ⟨gM, 3, none⟩ = some (.int .i64 1) := Holds.below hb9 _ _ hcM8
  clear HG8 HP8 L8 hcA8 hcM8 hb9 HPR HP
  go_wp2_with fail
  with_reducible refine (unhide HD1 _).mono ?_
  rintro e w10 ⟨rfl, hb10⟩
  have L10 := hide ((unhide L9).trans (hb10.mono (unhide L9).size))
  clear L9 hb10 hcA9 hcM9
  go_wp2_with fail
  with_reducible refine (l_d0 _).mono ?_
  rintro e w11 ⟨rfl, hb11⟩
  have L11 := hide ((unhide L10).trans (hb11.mono (unhide L10).size))
  clear L10 hb11
  go_wp2
  go_ret
  exact ⟨rfl, unhide L11⟩
end Go.Proofs.YteaokkaidcbdlaaGreatDoor
/- The reference's parts (96). -/
namespace Go.Proofs.YteaokkaidcbdlaaGreatDoor
open Go Go.RowKit Go.Shelf
/-! ### The reference's parts (96) -/
theorem namedFrom_append : ∀ (l r seen : List ByteArray), namedFrom seen (l ++ r) = (namedFrom seen l && namedFrom (seen ++ l) r)
  | [], r, seen => by simp [namedFrom]
  | x :: l, r, seen => by
    rw [List.cons_append, namedFrom_cons, namedFrom_cons, namedFrom_append l r (seen ++ [x]), List.append_assoc]
    simp [Bool.and_assoc]
theorem named_snoc (l : List ByteArray) (x : ByteArray) : namedFrom [] (l ++ [x]) = (namedFrom [] l && (nameB (bs x) && !Lib.containsS l x)) := by
  rw [namedFrom_append, List.nil_append, namedFrom_cons]
  simp [namedFrom]
theorem named_pre {l r : List ByteArray} (h : namedFrom [] l = false) : namedFrom [] (l ++ r) = false := by rw [namedFrom_append, h]; rfl
theorem named_take {α : Type} {f : α → ByteArray} {l : List α} {k : Nat} (h : namedFrom [] ((l.take k).map f) = false) : namedB (l.map f) = false := by
  unfold namedB
  rw [← List.take_append_drop k l, List.map_append, named_pre h, Bool.and_false]
theorem named_next {α : Type} {f : α → ByteArray} {l : List α} {k : Nat} (h : k < l.length) : namedFrom [] ((l.take (k + 1)).map f) = (namedFrom [] ((l.take k).map f) && (nameB (bs (f l[k])) && !Lib.containsS ((l.take k).map f) (f l[k]))) := by
  rw [List.take_succ_eq_append_getElem h, List.map_append, List.map_cons, List.map_nil, named_snoc]
theorem contains_no {l : List ByteArray} {x : ByteArray} (h : x ∉ l) : Lib.containsS l x = false := by
  cases hc : Lib.containsS l x with
  | false => rfl
  | true => exact absurd ((Lib.containsS_iff l x).1 hc) h
theorem not_mem_next {α : Type} {f : α → ByteArray} {l : List α} {j : Nat} {x : ByteArray} (h : j < l.length) (hx : x ∉ (l.take j).map f) (hne : f l[j] ≠ x) : x ∉ (l.take (j + 1)).map f := by
  rw [List.take_succ_eq_append_getElem h, List.map_append, List.map_cons, List.map_nil, List.mem_append, List.mem_singleton]
  rintro (h | h)
  · exact hx h
  · exact hne h.symm
theorem mem_take_at {α : Type} {f : α → ByteArray} {l : List α} {j k : Nat} (h : j < l.length) (hjk : j < k) : f l[j] ∈ (l.take k).map f :=
  List.mem_map_of_mem (by rw [List.mem_take_iff_getElem]; exact ⟨j, by omega, rfl⟩)
theorem neS {a b : ByteArray} (h : a ≠ b) : (a.toList == b.toList) = false :=
  beq_eq_false_iff_ne.2 (fun e => h (bs_ext (by unfold bs; rw [← ByteArray.toList_eq, ← ByteArray.toList_eq, e])))
/-- All that is asked of parts in a graph of so many types. -/
def partsB (n : Nat) (ps : List PartD) : Bool := namedB (ps.map (·.name)) && ps.all fun p => idxB n p.type
set_option maxRecDepth 100000 in
set_option maxHeartbeats 8000000 in
theorem refParts_any (go : Option Addr) (n gc : Nat) (v : Value) (ps : List PartD) (W : World) (hP : SliceOf 2 (PartAt W) v ps) (hz : ∀ p ∈ ps, p.name.size ≤ maxLen) :
    Calls Tryz.prog 96 #[.slice go n gc, v] W fun e w' => e = .returned (.bool (partsB n ps)) ∧ Below W.heap.size W w' := by
  obtain ⟨o, cap, rfl⟩ := hP.form
  obtain ⟨_, hcm, hlc, hat⟩ := hP.at
  have h63 : ps.length ≤ 9223372036854775807 := by unfold maxLen at hcm; omega
  clear hP hcm hlc
  obtain ⟨N, hN⟩ : ∃ N, ps.length = N := ⟨_, rfl⟩
  have HN := Lib.hid hN
  rw [hN] at h63 ⊢
  clear hN
  go_enter Tryz.func96, Tryz.ntmps96
  go_wp2
  go_loopg [5] N (fun g i wr => ∃ k : Nat, k ≤ N ∧ g = N - k ∧ i = .int .i64 k ∧ Below W.heap.size W wr ∧ Hid (namedFrom [] ((ps.take k).map (·.name)) = true ∧ (ps.take k).all (fun p => idxB n p.type) = true))
  case atStart => exact ⟨0, Nat.zero_le _, rfl, rfl, Below.refl _ _, Lib.hid ⟨rfl, rfl⟩⟩
  case round =>
    obtain ⟨k, hk, hgk, rfl, hbw, HT⟩ := hrel
    by_cases hlt : k < N
    · have hlt1 : k < ps.length := by rw [HN.out]; exact hlt
      obtain ⟨b, off, rfl, e0, e1⟩ := hat k ps[k] (List.getElem?_eq_getElem hlt1)
      have hsz := hz _ (List.getElem_mem hlt1)
      have HIN := fun (h : idxB n ps[k].type = false) => Lib.hid (show partsB n ps = false by
        unfold partsB; rw [show ps.all (fun p => idxB n p.type) = false from List.all_eq_false.2 ⟨_, List.getElem_mem hlt1, by simp [h]⟩, Bool.and_false])
      have HNN := fun (h : (nameB (bs ps[k].name) && !Lib.containsS ((ps.take k).map (·.name)) ps[k].name) = false) => Lib.hid (show partsB n ps = false by
        unfold partsB; rw [named_take (k := k + 1) (f := fun p : PartD => p.name) (by rw [named_next (f := fun p : PartD => p.name) hlt1, h, Bool.and_false])]; rfl)
      have HYY := fun (h1 : nameB (bs ps[k].name) = true) (h2 : ps[k].name ∉ (ps.take k).map (·.name)) (h3 : idxB n ps[k].type = true) =>
        Lib.hid (show namedFrom [] ((ps.take (k + 1)).map (·.name)) = true ∧ (ps.take (k + 1)).all (fun p => idxB n p.type) = true by
          refine ⟨by rw [named_next (f := fun p : PartD => p.name) hlt1, HT.out.1, h1, contains_no h2]; rfl, ?_⟩
          rw [all_take _ _ _ hlt1, HT.out.2, h3]; rfl)
      have HMEM := fun (j : Nat) (hj : j < ps.length) (hjk : j < k) => mem_take_at (f := fun p : PartD => p.name) hj hjk
      generalize ps[k] = x at e0 e1 hsz HIN HNN HYY
      have d0 := Holds.below hbw _ _ e0
      have d1 := Holds.below hbw _ _ e1
      have hnm := refName_any x.name hsz
      have hlt' : (k : Int) < N := by omega
      cases hnb : nameB (bs x.name) with
      | false =>
        rw [hnb] at hnm
        have HM := hide hnm
        have HX := HNN (by rw [hnb]; rfl)
        clear HIN HNN HYY HMEM hnm e0 e1 hat HT
        go_wp2_with (go_at_call 20; with_reducible refine (unhide HM _).mono ?_; rintro e w4 ⟨rfl, rfl⟩)
        go_ret
        exact ⟨ret_bool HX.out.symm, hbw⟩
      | true =>
        rw [hnb] at hnm
        have HM := hide hnm
        rcases (show x.type < 0 ∨ (0 ≤ x.type ∧ (n : Int) ≤ x.type) ∨ (0 ≤ x.type ∧ x.type < n) by omega) with h1 | ⟨h1, h2⟩ | ⟨h1, h2⟩
        · have HX := HIN (decide_eq_false (by omega))
          clear HIN HNN HYY HMEM hnm e0 e1 hat HT
          go_wp2_with (go_at_call 20; with_reducible refine (unhide HM _).mono ?_; rintro e w4 ⟨rfl, rfl⟩)
          go_ret
          exact ⟨ret_bool HX.out.symm, hbw⟩
        · have HX := HIN (decide_eq_false (by omega))
          clear HIN HNN HYY HMEM hnm e0 e1 hat HT
          go_wp2_with (go_at_call 20; with_reducible refine (unhide HM _).mono ?_; rintro e w4 ⟨rfl, rfl⟩)
          go_ret
          exact ⟨ret_bool HX.out.symm, hbw⟩
        · have HY := fun h => HYY hnb h (decide_eq_true ⟨h1, h2⟩)
          have HNO := fun (h : Lib.containsS ((ps.take k).map (·.name)) x.name = true) => HNN (by rw [h, Bool.not_true, Bool.and_false])
          clear HIN HNN HYY hnm hnb HT
          go_wp2_with (go_at_call 20; with_reducible refine (unhide HM _).mono ?_; rintro e w4 ⟨rfl, rfl⟩)
          go_loopg [6] k (fun g i w2 => ∃ j : Nat, j ≤ k ∧ g = k - j ∧ i = .int .i64 j ∧ Below W.heap.size W w2 ∧ Hid (x.name ∉ (ps.take j).map (·.name)))
          case atStart => exact ⟨0, Nat.zero_le _, rfl, rfl, hbw, Lib.hid (by simp)⟩
          case round =>
            obtain ⟨j, hj, hgj, rfl, hbw2, HJ⟩ := hrel
            by_cases hjlt : j < k
            · have hjlt1 : j < ps.length := by omega
              obtain ⟨b2, off2, he2, f0, f1⟩ := hat j ps[j] (List.getElem?_eq_getElem hjlt1)
              cases he2
              have c0 := Holds.below hbw2 _ _ e0
              have c2 := Holds.below hbw2 _ _ f0
              have HEQ := fun (h : ps[j].name = x.name) => HNO ((Lib.containsS_iff _ _).2 (h ▸ HMEM j hjlt1 hjlt))
              have HNE := fun (h : ps[j].name ≠ x.name) => Lib.hid (not_mem_next (f := fun p : PartD => p.name) hjlt1 HJ.out h)
              have hBD := fun nq => below_drewN' hbw2 nq
              generalize ps[j] = y at c2 HEQ HNE f0 f1
              have hjlt' : (j : Int) < k := by omega
              have hjN : (j : Int) < N := by omega
              clear hat HNO HMEM HY HJ e0 e1 f0 f1 d0 d1 HM hz
              by_cases hxy : y.name = x.name
              · have HZ := HEQ hxy
                rw [hxy] at c2
                clear HEQ HNE hxy
                generalize x.name = s at c0 c2
                go_wp2
                go_quiet (fail)
                go_wp2
                go_ret
                exact ⟨ret_bool HZ.out.symm, hBD _⟩
              · have HZ := HNE hxy
                have hne : (y.name.toList == x.name.toList) = false := neS hxy
                clear HEQ HNE hxy
                go_wp2
                go_quiet (fail)
                go_wp2
                go_roundg (k - (j + 1))
                case measure => omega
                case rel => exact ⟨j + 1, by omega, rfl, by go_num, hBD nq, HZ⟩
            · obtain rfl : j = k := by omega
              have HZ := HY HJ.out
              clear hat HNO HMEM HY HJ e0 e1 d0 d1 HM hz
              go_wp2
              go_roundg (N - (j + 1))
              case measure => omega
              case rel => exact ⟨j + 1, by omega, rfl, by go_num, hbw2, HZ⟩
    · obtain rfl : k = N := by omega
      have HX := Lib.hid (show partsB n ps = decide (k ≤ 8) by
        have h := HT.out
        rw [List.take_of_length_le (by have := HN.out; omega)] at h
        unfold partsB namedB
        rw [h.1, h.2, List.length_map, HN.out, Bool.and_true, Bool.and_true])
      clear HT hat
      go_wp2
      go_ret
      exact ⟨ret_bool (by rw [HX.out]; simp; omega), hbw⟩
end Go.Proofs.YteaokkaidcbdlaaGreatDoor
