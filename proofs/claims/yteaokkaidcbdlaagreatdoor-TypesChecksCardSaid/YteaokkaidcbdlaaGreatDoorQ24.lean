/- Part 24 of 51: the texts Fa, Ch, one behind the other. -/
import Derived.Test.YteaokkaidcbdlaaGreatDoorQ8
import Derived.Tactics
import Derived.Tactics2
import Derived.WalkKit
import Derived.LoopTactic
import Derived.Outline
import Derived.Lib.Hide
import Derived.Handy
import Derived.KernelRfl
import Derived.Deep.LoopGhost
import Derived.CallsIn
import Derived.Deep.QuietTactic
import Derived.BigQuiet
import Derived.Deep.Draws
import Derived.WalkSpells
import Derived.Lib.Walk
import Derived.Lib.Strings
import Derived.Maps.OwnOps
import Derived.Maps.OwnSet
import Derived.Deep.RegionWith
import Derived.StillTailTactics
import Derived.WalkMore
import Derived.RangeFuncNested
import Derived.RangeFuncBound
import Derived.RangeFuncCalls
import Derived.RangeFuncLeaves
import Derived.RangeFuncBox
import Derived.Shelf.Abstract
import Derived.OwnWalkIn
import Derived.TacticsInMore
import Derived.LoopNIn
import Derived.LoopIn
import Derived.RecoverIn
import Derived.Maps.AppendAt
import Derived.RegionTactic
import Derived.ChangeAlike
import Derived.OwnWalk
import Derived.Deep.AppendLies
import Derived.Deep.DeepCutAuto
import Derived.Deep.RegionLaw
import Derived.Deep.RegionHeld3
import Derived.Laws.EntriesVeiled
import Derived.Test.YteaokkaidcbdlaaGreatDoorQ23
/- The first type above itself: firstAboveItself, for every graph whose types are as the table says. -/
namespace Go.Proofs.YteaokkaidcbdlaaGreatDoor
open Go Go.RowKit Go.Shelf
/-- From the type a, do Supers alone lead to the type i, in so many steps? -/
def backIn (G : List TyD) (i : Nat) : Nat → Nat → Bool
  | 0, _ => false
  | f + 1, a => match G[a]? with
    | none => false
    | some t => supB t.kind && (t.super.toNat == i || backIn G i f t.super.toNat)
theorem backIn_at {G : List TyD} {i f a : Nat} {t : TyD} (h : G[a]? = some t) : backIn G i (f + 1) a = (supB t.kind && (t.super.toNat == i || backIn G i f t.super.toNat)) := by
  show (match G[a]? with | none => false | some t => supB t.kind && (t.super.toNat == i || backIn G i f t.super.toNat)) = _
  rw [h]
def aboveNo (G : List TyD) (i : Nat) : Bool := !backIn G i G.length i
theorem superB_of {G : List TyD} {t : TyD} (h : tyB G t = true) (hs : supB t.kind = true) : superB G t = true := by
  have hk : t.kind = 12 ∨ t.kind = 13 := of_decide_eq_true hs
  unfold tyB at h
  rcases hk with hk | hk <;> rw [hk] at h <;> simp only [Bool.and_eq_true] at h
  · exact h.1.1.1.1.2
  · exact h.1.2
set_option maxRecDepth 100000 in
set_option maxHeartbeats 8000000 in
theorem firstAbove_any (gv : Value) (G : List TyD) (W : World) (hG0 : GrAt W gv G) (hlen : G.length ≤ 410) (hall : ∀ t ∈ G, tyB G t = true) :
    Calls Tryz.prog 55 #[gv] W fun e w' => e = .returned (.int .i64 (firstNo (aboveNo G) (List.range G.length))) ∧ w' = W := by
  obtain ⟨o, cap, rfl⟩ := hG0.form
  obtain ⟨_, _, _, hat⟩ := hG0.at
  clear hG0
  go_enter Tryz.func55, Tryz.ntmps55
  go_wp2
  go_loopg [7] G.length (fun n i wr => ∃ k : Nat, k ≤ G.length ∧ n = G.length - k ∧ i = .int .i64 k ∧ wr = W ∧ Hid ((List.range k).all (aboveNo G) = true))
  case atStart => exact ⟨0, Nat.zero_le _, rfl, rfl, rfl, Lib.hid rfl⟩
  case round =>
    obtain ⟨k, hk, hgk, rfl, rfl, HT⟩ := hrel
    by_cases hlt : k < G.length
    · have hlt' : (k : Int) < G.length := by omega
      go_wp2
      go_loopg [4, 13] G.length (fun n a j w2 => ∃ m c : Nat, m ≤ G.length ∧ n = G.length - m ∧ c < G.length ∧ a = .int .i64 c ∧ j = .int .i64 m ∧ w2 = wr ∧ Hid (backIn G k G.length k = backIn G k (G.length - m) c))
      case atStart => exact ⟨0, k, Nat.zero_le _, rfl, hlt, rfl, rfl, rfl, Lib.hid rfl⟩
      case round =>
        obtain ⟨m, c, hm, hgm, hc, rfl, rfl, rfl, HBK⟩ := hrel
        by_cases hmt : m < G.length
        · obtain ⟨b, off, rfl, vp, vm, vo, hl, d0, _, _, _, _, _, d6, _, _, _⟩ := hat c G[c] (List.getElem?_eq_getElem hc)
          have hc' : (c : Int) < G.length := by omega
          have hmt' : (m : Int) < G.length := by omega
          have hgc : G[c]? = some G[c] := List.getElem?_eq_getElem hc
          obtain ⟨r, hr⟩ : ∃ r, G.length - m = r + 1 := ⟨G.length - m - 1, by omega⟩
          have HBS := Lib.hid (show backIn G k (G.length - m) c = (supB G[c].kind && (G[c].super.toNat == k || backIn G k r G[c].super.toNat)) by rw [hr, backIn_at hgc])
          have hSup := superB_of (hall G[c] (List.getElem_mem hc))
          have hS := hasSuper_any G[c].kind
          generalize G[c].kind = kk at d0 HBS hSup hS
          cases hsb : supB kk with
          | false =>
            rw [hsb] at hS
            have HS := hide hS
            have HX := Lib.hid (show (List.range (k + 1)).all (aboveNo G) = true by rw [range_all, HT.out]; unfold aboveNo; rw [HBK.out, HBS.out, hsb]; rfl)
            clear hS hsb hat hl hgc hSup
            go_wp2_with (first | (go_at_call 94; refine (unhide HS _).mono ?_; rintro e w4 ⟨rfl, rfl⟩))
            go_roundg (G.length - (k + 1))
            case measure => omega
            case rel => exact ⟨k + 1, by omega, rfl, by go_num, rfl, HX⟩
          | true =>
            rw [hsb] at hS
            have HS := hide hS
            have hsx := hSup hsb
            unfold superB at hsx
            rw [Bool.and_eq_true] at hsx
            have hidx : 0 ≤ G[c].super ∧ G[c].super < G.length := of_decide_eq_true hsx.1
            rw [hsb, Bool.true_and] at HBS
            obtain ⟨c2, hc2⟩ : ∃ c2 : Nat, G[c].super = c2 := ⟨G[c].super.toNat, by omega⟩
            rw [hc2] at d6 hidx
            rw [hc2, Int.toNat_natCast] at HBS
            clear hS hsb hat hl hgc hSup hsx hc2
            by_cases he : c2 = k
            · have HX := Lib.hid (firstNo_at (p := aboveNo G) (l := List.range G.length) (k := k) (by simpa using hlt) (by rw [List.take_range, Nat.min_eq_left hk]; exact HT.out) (by rw [List.getElem_range]; unfold aboveNo; rw [HBK.out, HBS.out, he]; simp))
              subst he
              go_wp2_with (first | (go_at_call 94; refine (unhide HS _).mono ?_; rintro e w4 ⟨rfl, rfl⟩))
              go_ret
              exact ⟨ret_int HX.out.symm, rfl⟩
            · have hne : ((c2 : Int) == (k : Int)) = false := by simp; omega
              have HX := Lib.hid (show backIn G k G.length k = backIn G k (G.length - (m + 1)) c2 by
                have hb : (c2 == k) = false := by simpa using he
                rw [HBK.out, HBS.out, hb, Bool.false_or]; congr 1; omega)
              clear he
              go_wp2_with (first | (go_at_call 94; refine (unhide HS _).mono ?_; rintro e w4 ⟨rfl, rfl⟩))
              go_roundg (G.length - (m + 1))
              case measure => omega
              case rel => exact ⟨m + 1, c2, by omega, rfl, by omega, rfl, by go_num, rfl, HX⟩
        · obtain rfl : m = G.length := by omega
          have HX := Lib.hid (show (List.range (k + 1)).all (aboveNo G) = true by rw [range_all, HT.out]; unfold aboveNo; rw [HBK.out, Nat.sub_self]; rfl)
          go_wp2
          go_roundg (G.length - (k + 1))
          case measure => omega
          case rel => exact ⟨k + 1, by omega, rfl, by go_num, rfl, HX⟩
    · obtain rfl : k = G.length := by omega
      have HX := Lib.hid (firstNo_none (p := aboveNo G) (l := List.range G.length) HT.out)
      go_wp2
      go_ret
      exact ⟨ret_int HX.out.symm, rfl⟩
end Go.Proofs.YteaokkaidcbdlaaGreatDoor
/- Check, and what calls return first, for every graph. -/
namespace Go.Proofs.YteaokkaidcbdlaaGreatDoor
open Go Go.RowKit Go.Shelf
/-- What Check returns. -/
def checkR (G : List TyD) : Int × Int :=
  if 400 < G.length then (400, 30) else if 0 ≤ firstNo (tyB G) G then (firstNo (tyB G) G, 30) else if 0 ≤ firstNo (aboveNo G) (List.range G.length) then (firstNo (aboveNo G) (List.range G.length), 30) else (0, 0)
theorem firstNo_ge {α : Type} (p : α → Bool) (l : List α) : firstNo p l = -1 ∨ 0 ≤ firstNo p l := by
  unfold firstNo
  split
  · right; omega
  · left; rfl
theorem firstNo_all {α : Type} {p : α → Bool} {l : List α} (h : firstNo p l = -1) : ∀ x ∈ l, p x = true := by
  unfold firstNo at h
  split at h
  · omega
  · rename_i hn
    rw [List.findIdx?_eq_none_iff] at hn
    intro x hx
    have := hn x hx
    simpa using this
theorem check_any (gv : Value) (G : List TyD) (W : World) (hG0 : GrAt W gv G) (hz : GrZ G) :
    Calls Tryz.prog 15 #[gv] W fun e w' => e = .returned (.tuple #[.int .i64 (checkR G).1, .int .i64 (checkR G).2]) ∧ Below W.heap.size W w' := by
  have hlen := hz.len
  by_cases h4 : 400 < G.length
  · have HR := Lib.hid (show checkR G = (400, 30) from if_pos h4)
    obtain ⟨o, cap, rfl⟩ := hG0.form
    have h4' : (400 : Int) < G.length := by omega
    clear h4 hG0
    go_enter Tryz.func15, Tryz.ntmps15
    go_wp2
    go_ret2
    exact ⟨by rw [HR.out]; rfl, Below.refl _ _⟩
  · have hU := firstUnfit_any gv G W hG0 hz
    rcases firstNo_ge (tyB G) G with hn | hn
    · have hall := firstNo_all hn
      have hA := fun w h => firstAbove_any gv G w h hlen hall
      have hG1 := fun w (hb : Below W.heap.size W w) => hG0.below hb
      obtain ⟨o, cap, rfl⟩ := hG0.form
      have h4' : ¬ (400 : Int) < G.length := by omega
      rcases firstNo_ge (aboveNo G) (List.range G.length) with ha | ha
      · have HR := Lib.hid (show checkR G = (0, 0) by unfold checkR; rw [if_neg h4, hn, if_neg (by omega), ha, if_neg (by omega)])
        rw [hn] at hU
        rw [ha] at hA
        have HU := hide hU
        have HA := hide hA
        have HG1 := hide hG1
        clear hU hA hn ha h4 hG0 hall hG1
        go_enter Tryz.func15, Tryz.ntmps15
        go_wp2_with (first | (go_at_call 54; refine (unhide HU).mono ?_; rintro e w1 ⟨rfl, hb1⟩) | (go_at_call 55; refine (unhide HA _ (unhide HG1 _ hb1)).mono ?_; rintro e w2 ⟨rfl, rfl⟩))
        go_ret2
        exact ⟨by rw [HR.out]; rfl, hb1⟩
      · have HR := Lib.hid (show checkR G = (firstNo (aboveNo G) (List.range G.length), 30) by unfold checkR; rw [if_neg h4, hn, if_neg (by omega), if_pos ha])
        rw [hn] at hU
        revert HR hA ha
        generalize firstNo (aboveNo G) (List.range G.length) = q
        intro hA ha HR
        have HU := hide hU
        have HA := hide hA
        have HG1 := hide hG1
        clear hU hA hn h4 hG0 hall hG1
        go_enter Tryz.func15, Tryz.ntmps15
        go_wp2_with (first | (go_at_call 54; refine (unhide HU).mono ?_; rintro e w1 ⟨rfl, hb1⟩) | (go_at_call 55; refine (unhide HA _ (unhide HG1 _ hb1)).mono ?_; rintro e w2 ⟨rfl, rfl⟩))
        go_ret2
        exact ⟨by rw [HR.out]; rfl, hb1⟩
    · have HR := Lib.hid (show checkR G = (firstNo (tyB G) G, 30) by unfold checkR; rw [if_neg h4, if_pos hn])
      revert HR hU hn
      generalize firstNo (tyB G) G = q
      intro hU hn HR
      obtain ⟨o, cap, rfl⟩ := hG0.form
      have h4' : ¬ (400 : Int) < G.length := by omega
      have HU := hide hU
      clear hU h4 hG0
      go_enter Tryz.func15, Tryz.ntmps15
      go_wp2_with (first | (go_at_call 54; refine (unhide HU).mono ?_; rintro e w1 ⟨rfl, hb1⟩))
      go_ret2
      exact ⟨by rw [HR.out]; rfl, hb1⟩
def checkedR (G : List TyD) (l : List Int) : Int := if (checkR G).2 ≠ 0 then (checkR G).2 else if l.all (idxB G.length) then 0 else 1
set_option maxHeartbeats 2000000 in
theorem checked_any (gv : Value) (G : List TyD) (W : World) (hG0 : GrAt W gv G) (hz : GrZ G) (lv : Value) (l : List Int) (hl : SliceOf 1 (IntAt W) lv l) :
    Calls Tryz.prog 57 #[gv, lv] W fun e w' => e = .returned (.int .i64 (checkedR G l)) ∧ Below W.heap.size W w' := by
  have hC := hide (check_any gv G W hG0 hz)
  obtain ⟨o, cap, rfl⟩ := hG0.form
  obtain ⟨lo, lc, rfl⟩ := hl.form
  obtain ⟨_, hlm, hlc, hat⟩ := hl.at
  have hl63 : l.length ≤ 9223372036854775807 := by unfold maxLen at hlm; omega
  clear hl hlm hlc hG0
  by_cases h0 : (checkR G).2 = 0
  · rw [h0] at hC
    have HR := Lib.hid (show checkedR G l = if l.all (idxB G.length) then 0 else 1 by unfold checkedR; rw [if_neg (by simp [h0])])
    clear h0
    generalize (checkR G).1 = ci at hC
    go_enter Tryz.func57, Tryz.ntmps57
    go_wp2_with (first | (go_at_call 15; refine (unhide hC).mono ?_; clear hC; rintro e w1 ⟨rfl, hb1⟩))
    go_loopw [19] (fun i wr => ∃ k : Nat, k ≤ l.length ∧ i = .int .i64 k ∧ wr = w1 ∧ Hid ((l.take k).all (idxB G.length) = true)) (fun i _ => l.length - (intOf i).toNat)
    case atStart => exact ⟨0, Nat.zero_le _, rfl, rfl, Lib.hid rfl⟩
    case round =>
      obtain ⟨k, hk, rfl, rfl, HT⟩ := hrel
      by_cases hlt : k < l.length
      · have hlt' : (k : Int) < l.length := by omega
        obtain ⟨b, off, rfl, e0⟩ := hat k l[k] (List.getElem?_eq_getElem hlt)
        have r0 : wr.cell? ⟨b, off + k, none⟩ = some (.int .i64 l[k]) := by have := Holds.below hb1 _ _ e0; simpa using this
        have hI := isIndex_any o G.length cap l[k]
        cases hx : idxB G.length l[k] with
        | false =>
          rw [hx] at hI
          have HI := hide hI
          have HX := Lib.hid (show checkedR G l = 1 by
            rw [HR.out, if_neg]
            rw [Bool.not_eq_true, List.all_eq_false]
            exact ⟨l[k], List.getElem_mem hlt, by simp [hx]⟩)
          clear hI hx hat e0
          go_wp2_with (first | (go_at_call 99; refine (unhide HI _).mono ?_; rintro e w4 ⟨rfl, rfl⟩))
          go_ret
          exact ⟨by rw [HX.out]; rfl, hb1⟩
        | true =>
          rw [hx] at hI
          have HI := hide hI
          have HX := Lib.hid (show (l.take (k + 1)).all (idxB G.length) = true by rw [all_take _ _ _ hlt, HT.out, hx]; rfl)
          clear hI hx hat e0
          go_wp2_with (first | (go_at_call 99; refine (unhide HI _).mono ?_; rintro e w4 ⟨rfl, rfl⟩))
          go_roundw
          case rel => exact ⟨k + 1, by omega, by go_num, trivial, HX⟩
          case measure => simp [intOf]; omega
      · obtain rfl : k = l.length := by omega
        have HX := Lib.hid (show checkedR G l = 0 by
          have h := HT.out
          rw [List.take_length] at h
          rw [HR.out, if_pos h])
        go_wp2
        go_ret
        exact ⟨by rw [HX.out]; rfl, hb1⟩
  · have HR := Lib.hid (show checkedR G l = (checkR G).2 by unfold checkedR; rw [if_pos h0])
    generalize (checkR G).1 = ci at hC
    have hne : ((checkR G).2 != 0) = true := by simpa using h0
    revert hC HR hne
    generalize (checkR G).2 = ce
    intro HR hC hne
    clear hat h0
    go_enter Tryz.func57, Tryz.ntmps57
    go_wp2_with (first | (go_at_call 15; refine (unhide hC).mono ?_; clear hC; rintro e w1 ⟨rfl, hb1⟩))
    go_ret
    exact ⟨by rw [HR.out]; rfl, hb1⟩
end Go.Proofs.YteaokkaidcbdlaaGreatDoor
