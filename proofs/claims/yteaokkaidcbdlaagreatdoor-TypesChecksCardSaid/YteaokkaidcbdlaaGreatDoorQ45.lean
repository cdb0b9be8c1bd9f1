/- Part 45 of 51: the texts Dg, Lv, one behind the other. -/
import Derived.Test.YteaokkaidcbdlaaGreatDoorQ44
import Derived.Test.YteaokkaidcbdlaaGreatDoorQ0
import Derived.Test.YteaokkaidcbdlaaGreatDoorQ2
import Derived.Tactics
import Derived.Tactics2
import Derived.WalkKit
import Derived.LoopTactic
import Derived.Outline
import Derived.Lib.Hide
import Derived.Handy
import Derived.KernelRfl
import Derived.Deep.LoopGhost
import Derived.CallsIn
import Derived.Deep.QuietTactic
import Derived.BigQuiet
import Derived.Deep.Draws
import Derived.WalkSpells
import Derived.Lib.Walk
import Derived.Lib.Strings
import Derived.Maps.OwnOps
import Derived.Maps.OwnSet
import Derived.Deep.RegionWith
import Derived.StillTailTactics
import Derived.WalkMore
import Derived.RangeFuncNested
import Derived.RangeFuncBound
import Derived.RangeFuncCalls
import Derived.RangeFuncLeaves
import Derived.RangeFuncBox
import Derived.Shelf.Abstract
import Derived.OwnWalkIn
import Derived.TacticsInMore
import Derived.LoopNIn
import Derived.LoopIn
import Derived.RecoverIn
import Derived.Maps.AppendAt
import Derived.RegionTactic
import Derived.ChangeAlike
import Derived.OwnWalk
import Derived.Deep.AppendLies
import Derived.Deep.DeepCutAuto
import Derived.Deep.RegionLaw
import Derived.Deep.RegionHeld3
import Derived.Laws.EntriesVeiled
import Derived.Test.YteaokkaidcbdlaaGreatDoorQ9
import Derived.Test.YteaokkaidcbdlaaGreatDoorQ35
import Derived.Test.YteaokkaidcbdlaaGreatDoorQ36
import Derived.Test.YteaokkaidcbdlaaGreatDoorQ37
import Derived.Test.YteaokkaidcbdlaaGreatDoorQ29
/- Digest (48): a T and twelve digits to the base 36. -/
namespace Go.Proofs.YteaokkaidcbdlaaGreatDoor
open Go Go.RowKit Go.Shelf
/-! ### Digest (48) -/
theorem fmtIn_any (n : Nat) (hn : n < 131621703842267136) (W : World) : Calls Tryz.prog 144 #[.int .i64 n, .int .i64 36] W fun e w' => e = .returned (.string ⟨(digL 36 10 n).toArray⟩) ∧ Below W.heap.size W w' := by
  have H := hide (fun w => bits_odd rfl n hn w)
  have h1 : IntKind.u64.wrap (n : Int) = n := by rw [IntKind.wrap_u64]; omega
  have h2 : ¬ ((n : Int) < 0) := by omega
  go_enter Tryz.func144, Tryz.ntmps144
  go_wp2_with (first | (go_at_call 195; refine (unhide H _).mono ?_; rintro e w1 ⟨rfl, hb⟩))
  go_ret
  exact ⟨rfl, hb⟩
theorem fmt_any (n : Nat) (hn : n < 131621703842267136) (W : World) : Calls Tryz.prog 87 #[.int .i64 n, .int .i64 36] W fun e w' => e = .returned (.string ⟨(digL 36 10 n).toArray⟩) ∧ Below W.heap.size W w' := by
  have H := hide (fun w => fmtIn_any n hn w)
  go_enter Tryz.func87, Tryz.ntmps87
  go_wp2_with (first | (go_at_call 144; refine (unhide H _).mono ?_; rintro e w1 ⟨rfl, hb⟩))
  go_ret
  exact ⟨rfl, hb⟩
theorem repeat_any (c : Nat) (hc : c ≤ 12) (W : World) : Calls Tryz.prog 88 #[.string ⟨#[48]⟩, .int .i64 c] W fun e w' => e = .returned (.string ⟨(Lib.repeatL [48] c).toArray⟩) ∧ Below W.heap.size W w' := by
  match c with
  | 0 => exact (Tryz.strings_Repeat_zero _ W).mono fun e w' ⟨he, hw⟩ => ⟨he, hw ▸ Below.refl _ _⟩
  | 1 => exact (Tryz.strings_Repeat_one _ W).mono fun e w' ⟨he, hw⟩ => ⟨he, hw ▸ Below.refl _ _⟩
  | c + 2 => exact Tryz.strings_Repeat_main ⟨#[48]⟩ (c + 2) W (by omega) (by omega) (by simp [ByteArray.size]; omega) (by decide)
theorem upper_any (l : List UInt8) (hl : l.length ≤ 1000) (h : ∀ b ∈ l, b.toNat < 128) (W : World) : Calls Tryz.prog 86 #[.string ⟨l.toArray⟩] W fun e w' => e = .returned (.string ⟨(Lib.toUpperA l).toArray⟩) ∧ Below W.heap.size W w' := by
  have := Tryz.strings_ToUpper_ascii ⟨l.toArray⟩ W (by simp [ByteArray.size]; omega) (fun j b hb => h b (by simpa using List.mem_of_getElem? hb))
  simpa using this
theorem foldl_snoc' {s : ByteArray} {k : Nat} (h : k < s.size) : ((bs s).take (k + 1)).foldl digStep 5381 = digStep (((bs s).take k).foldl digStep 5381) s[k] := by
  rw [bs_snoc s k h, List.foldl_append]; rfl
set_option maxRecDepth 100000 in
set_option maxHeartbeats 4000000 in
theorem digest_any (s : ByteArray) (hs : s.size ≤ maxLen) (W : World) : Calls Tryz.prog 48 #[.string s] W fun e w' => e = .returned (.string ⟨(digestL (bs s)).toArray⟩) ∧ Below W.heap.size W w' := by
  unfold maxLen at hs
  have hlt1 := digest_lt (bs s)
  have H1 := hide (fun w => fmt_any (digestN (bs s)) (Nat.lt_of_lt_of_le hlt1 (by decide)) w)
  have hlen := digest_len (bs s)
  have H2 := hide (fun w => upper_any (digL 36 10 (digestN (bs s))) (by omega) (digL_ascii 10 _ hlt1) w)
  have H3 := hide (fun w => repeat_any (12 - (digL 36 10 (digestN (bs s))).length) (by omega) w)
  have HE := Lib.hid (digest_eq (bs s))
  have hup : (Lib.toUpperA (digL 36 10 (digestN (bs s)))).length = (digL 36 10 (digestN (bs s))).length := by unfold Lib.toUpperA; simp
  generalize Lib.toUpperA (digL 36 10 (digestN (bs s))) = U at H2 HE hup
  generalize hD : digL 36 10 (digestN (bs s)) = D at H1 H2 H3 HE hlen hup
  clear hlt1 hD
  generalize hR : Lib.repeatL [48] (12 - D.length) = R at H3 HE
  have hRl : R.length = 12 - D.length := by rw [← hR, repeat_zero]; simp
  clear hR
  obtain ⟨c, hc⟩ : ∃ c, 12 - D.length = c := ⟨_, rfl⟩
  have hcu : (12 : Int) - (U.length : Nat) = c := by omega
  rw [hc] at H3
  have HN := Lib.hid (show digestN (bs s) = ((bs s).take s.size).foldl digStep 5381 by rw [bs_all]; rfl)
  generalize digestN (bs s) = N at H1 HN
  have hRb : R.length ≤ 12 := by omega
  clear hc hRl
  have HU := Lib.hid hup
  clear hup
  go_enter Tryz.func48, Tryz.ntmps48
  go_wp2
  go_loopw [3, 8] (fun h i wr => ∃ k : Nat, k ≤ s.size ∧ i = .int .i64 k ∧ wr = W ∧ ∃ x : Nat, h = .int .i64 x ∧ x < 9007199254740881 ∧ Hid (x = ((bs s).take k).foldl digStep 5381)) (fun _ i _ => s.size - (intOf i).toNat)
  case atStart => exact ⟨0, Nat.zero_le _, rfl, rfl, 5381, rfl, by decide, Lib.hid rfl⟩
  case round =>
    obtain ⟨k, hk, rfl, rfl, x, rfl, hx, HX⟩ := hrel
    by_cases hlt : k < s.size
    · have HT := Lib.hid (foldl_snoc' hlt)
      have hb : s[k].toNat < 256 := s[k].toNat_lt
      have hw1 : wrap64 (s[k].toNat : Int) = s[k].toNat := by rw [wrap64]; omega
      have hw2 : wrap64 (257 * (x : Int) + s[k].toNat) = ((257 * x + s[k].toNat : Nat) : Int) := by rw [wrap64]; omega
      have hm : ((257 * x + s[k].toNat : Nat) : Int).tmod 9007199254740881 = ((digStep x s[k] : Nat) : Int) := by
        rw [Int.tmod_eq_emod_of_nonneg (by omega)]; unfold digStep; omega
      have hd : digStep x s[k] < 9007199254740881 := Nat.mod_lt _ (by decide)
      have HS := Lib.hid hd
      have HM := Lib.hid hm
      have HW := Lib.hid hw2
      clear hm hd hw2 hb
      go_wp2
      go_roundw
      case rel =>
        refine ⟨k + 1, by omega, by go_num, trivial, digStep x s[k], ?_, HS.out, Lib.hid (by rw [HT.out, ← HX.out])⟩
        try rw [hw1]
        rw [HW.out, HM.out]
      case measure => simp [intOf]; omega
    · obtain rfl : k = s.size := by omega
      have hxN := HX.out
      rw [← HN.out] at hxN
      subst hxN
      have hU := HU.out
      clear HU HX HN
      have H4 : Hide (∀ w, Calls Tryz.prog 88 #[.string ⟨#[48]⟩, .int .i64 (12 - (D.length : Int))] w fun e w' => e = .returned (.string ⟨R.toArray⟩) ∧ Below w.heap.size w w') := hide (by
        have e : (12 : Int) - (D.length : Int) = c := by omega
        rw [e]; exact unhide H3)
      clear H3 hcu
      go_wp2_with (first | (go_at_call 87; refine (unhide H1 _).mono ?_; rintro e w1 ⟨rfl, hb1⟩) | (go_at_call 86; refine (unhide H2 _).mono ?_; rintro e w2 ⟨rfl, hb2⟩) | (go_at_call 88; with_reducible refine (unhide H4 _).mono ?_; rintro e w3 ⟨rfl, hb3⟩))
      go_ret
      refine ⟨?_, (hb1.trans (hb2.mono hb1.size)).trans (hb3.mono (Nat.le_trans hb1.size hb2.size))⟩
      rw [HE.out]
      congr 2
end Go.Proofs.YteaokkaidcbdlaaGreatDoor
/- What the functions say of the chapter's graph; Print (44). -/
namespace Go.Proofs.YteaokkaidcbdlaaGreatDoor
open Go Go.RowKit Go.Shelf
/-! ### The chapter's graph, and what the functions say of it -/
set_option maxRecDepth 100000
theorem lists_z : GrZ listsG := by
  refine ⟨by decide, fun t ht => ?_⟩
  simp only [listsG, List.mem_cons, List.not_mem_nil, or_false] at ht
  have hz : ∀ t : TyD, t.brand.size = 0 → t.opq.size = 0 → (∀ p ∈ t.parts, p.name.size ≤ 4) → t.meths = [] → t.overs = [] → TyZ t := fun t h1 h2 h3 h4 h5 =>
    ⟨by rw [h1]; exact Nat.zero_le _, by rw [h2]; exact Nat.zero_le _, fun p hp => Nat.le_trans (h3 p hp) (by unfold maxLen; omega), by rw [h4]; simp, by rw [h5]; simp⟩
  have hr : ∀ a b, ∀ p ∈ (recT a b).parts, p.name.size ≤ 4 := fun a b p hp => by
    simp only [recT, List.mem_cons, List.not_mem_nil, or_false] at hp
    rcases hp with rfl | rfl
    · exact (show headS.size ≤ 4 by decide)
    · exact (show tailS.size ≤ 4 by decide)
  rcases ht with rfl | rfl | rfl | rfl | rfl | rfl | rfl
  · exact ⟨hz _ rfl rfl (by simp [intT]) rfl rfl, by decide, by decide, by decide, by decide⟩
  · exact ⟨hz _ rfl rfl (hr _ _) rfl rfl, by decide, by decide, by decide, by decide⟩
  · exact ⟨hz _ rfl rfl (hr _ _) rfl rfl, by decide, by decide, by decide, by decide⟩
  · exact ⟨hz _ rfl rfl (hr _ _) rfl rfl, by decide, by decide, by decide, by decide⟩
  · exact ⟨hz _ rfl rfl (fun p hp => by simp only [refT, List.mem_cons, List.not_mem_nil, or_false] at hp; subst hp; exact (show emptyS.size ≤ 4 by decide)) rfl rfl, by decide, by decide, by decide, by decide⟩
  · exact ⟨hz _ rfl rfl (by simp [rngT]) rfl rfl, by decide, by decide, by decide, by decide⟩
  · exact ⟨hz _ rfl rfl (hr _ _) rfl rfl, by decide, by decide, by decide, by decide⟩
theorem v_12 : equalL listsG 1 2 = (true, 0) := by kernel_rfl
theorem v_16 : equalL listsG 1 6 = (false, 0) := by kernel_rfl
theorem v_ap : apartL listsG 1 6 = ([0], true, 0) := by kernel_rfl
theorem v_ck : ckApartL listsG 1 6 [1, 0] = (true, 0) := by kernel_rfl
theorem v_ok : checkedR listsG [] = 0 := by kernel_rfl
theorem v_mt : (mergeT listsG).length = 5 := by kernel_rfl
theorem v_ml : natsV (mergeL listsG).2 = [.int .i64 0, .int .i64 1, .int .i64 1, .int .i64 1, .int .i64 2, .int .i64 3, .int .i64 4] := by kernel_rfl
theorem v_t3 : textL listsG 3 = (⟨#[49, 48, 32, 45, 32, 104, 101, 97, 100, 58, 49, 32, 116, 97, 105, 108, 58, 48, 10, 49, 10]⟩, 0) := by kernel_rfl
theorem v_t0 : textL listsG 0 = (⟨#[49, 10]⟩, 0) := by kernel_rfl
theorem v_d0 : digestL (bs ⟨#[]⟩) = [84, 48, 48, 48, 48, 48, 48, 48, 48, 48, 52, 53, 72] := by kernel_rfl
/-! ### Print (44) -/
def printL (G : List TyD) (i : Int) : ByteArray × Int := if (textL G i).2 = 0 then (⟨(digestL (bs (textL G i).1)).toArray⟩, 0) else (⟨#[]⟩, (textL G i).2)
theorem print_any (gv : Value) (G : List TyD) (i : Int) (W : World) (hG0 : GrAt W gv G) (hz : GrZ G) (hP : P10 W.heap.size W) (hsz : (textL G i).1.size ≤ maxLen) :
    Calls Tryz.prog 44 #[gv, .int .i64 i] W fun e w' => e = .returned (.tuple #[.string (printL G i).1, .int .i64 (printL G i).2]) ∧ Below W.heap.size W w' := by
  have HT := hide (text_all gv G i W hG0 hz hP)
  have HD := hide (fun w => digest_any (textL G i).1 hsz w)
  obtain ⟨o, cap, rfl⟩ := hG0.form
  by_cases h0 : (textL G i).2 = 0
  · have HR := Lib.hid (show printL G i = (⟨(digestL (bs (textL G i).1)).toArray⟩, 0) by unfold printL; rw [if_pos h0])
    rw [h0] at HT
    generalize (textL G i).1 = s at HT HD HR
    clear h0 hG0 hsz hP hz
    go_enter Tryz.func44, Tryz.ntmps44
    go_wp2_with (first | (go_at_call 42; with_reducible refine (unhide HT).mono ?_; rintro e w1 ⟨rfl, hb1⟩) | (go_at_call 48; with_reducible refine (unhide HD _).mono ?_; rintro e w2 ⟨rfl, hb2⟩))
    go_ret2
    exact ⟨by rw [HR.out]; rfl, hb1.trans (hb2.mono hb1.size)⟩
  · have HR := Lib.hid (show printL G i = (⟨#[]⟩, (textL G i).2) by unfold printL; rw [if_neg h0])
    generalize (textL G i).1 = s at HT HD HR
    generalize (textL G i).2 = x at HT HR h0
    have hx : (x == 0) = false := by simpa using h0
    clear h0 hG0 hsz hP hz HD
    go_enter Tryz.func44, Tryz.ntmps44
    go_wp2_with (first | (go_at_call 42; with_reducible refine (unhide HT).mono ?_; rintro e w1 ⟨rfl, hb1⟩))
    go_ret2
    exact ⟨by rw [HR.out]; rfl, hb1⟩
end Go.Proofs.YteaokkaidcbdlaaGreatDoor
