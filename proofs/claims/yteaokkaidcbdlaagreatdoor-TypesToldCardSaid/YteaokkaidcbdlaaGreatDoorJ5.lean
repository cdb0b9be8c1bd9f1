/- Part 5 of 53: the texts Nm, one behind the other. -/
import Derived.Test.YteaokkaidcbdlaaGreatDoorJ3
import Derived.Tactics
import Derived.Tactics2
import Derived.WalkKit
import Derived.LoopTactic
import Derived.Outline
import Derived.Lib.Hide
import Derived.Handy
import Derived.KernelRfl
import Derived.Deep.LoopGhost
import Derived.CallsIn
import Derived.Deep.QuietTactic
import Derived.BigQuiet
import Derived.Deep.Draws
import Derived.WalkSpells
import Derived.Lib.Walk
import Derived.Lib.Strings
import Derived.Maps.OwnOps
import Derived.Maps.OwnSet
import Derived.Deep.RegionWith
import Derived.StillTailTactics
import Derived.WalkMore
import Derived.RangeFuncNested
import Derived.RangeFuncBound
import Derived.RangeFuncCalls
import Derived.RangeFuncLeaves
import Derived.RangeFuncBox
import Derived.Shelf.Abstract
import Derived.OwnWalkIn
import Derived.TacticsInMore
import Derived.LoopNIn
import Derived.LoopIn
import Derived.RecoverIn
import Derived.Maps.AppendAt
import Derived.RegionTactic
import Derived.ChangeAlike
import Derived.OwnWalk
import Derived.Deep.AppendLies
import Derived.Deep.DeepCutAuto
import Derived.Deep.RegionLaw
import Derived.Deep.RegionHeld3
namespace Go.Proofs.YteaokkaidcbdlaaGreatDoor
open Go Go.RowKit Go.Shelf
theorem clo276 {x p : ByteArray} {va vr : Value} {r : Int} (w : World) : Calls Tryz.prog 276 #[.agg #[.string x, va, .int .i64 r, vr, .string p]] w fun e w' => e = .returned (.string x) ∧ w' = w.alloc (.cells #[.string x, va, .int .i64 r, vr, .string p] 74) := by
  go_enter Tryz.func276, Tryz.ntmps276
  go_wp2
  go_ret
  exact ⟨rfl, rfl⟩
set_option maxRecDepth 100000 in
set_option maxHeartbeats 4000000 in
theorem namedM_any (v : Value) (ps : List MethD) (W0 : World) (hP : SliceOf 5 (MethAt W0) v ps) (hz : ∀ p ∈ ps, p.name.size ≤ maxLen) (W : World) (hB0 : Below W0.heap.size W0 W) :
    Calls Tryz.prog 275 #[v, .func (.func 276) #[] #[]] W fun e w' => e = .returned (.bool (namedB (ps.map (·.name)))) ∧ Below W.heap.size W w' := by
  obtain ⟨o, cap, rfl⟩ := hP.form
  obtain ⟨_, hcm, hlc, hat⟩ := hP.at
  by_cases h8 : ps.length ≤ 8
  · have HN := Lib.hid (show namedB (ps.map (·.name)) = namedFrom [] (ps.map (·.name)) by unfold namedB; simp [h8])
    have hlm : ps.length ≤ 9223372036854775807 := by omega
    clear hP hcm hlc
    go_enter Tryz.func275, Tryz.ntmps275
    go_wp2
    go_loopw [5, 14] (fun vn i wr => ∃ k : Nat, k ≤ ps.length ∧ i = .int .i64 k ∧ wr.ownsRow W.heap.size 9 1 vn k ((ps.take k).map fun p => .string p.name) ∧ Below W.heap.size W wr ∧
      Hid (namedFrom [] (ps.map (·.name)) = namedFrom ((ps.take k).map (·.name)) ((ps.drop k).map (·.name)))) (fun _ i _ => ps.length - (intOf i).toNat)
    case atStart => exact ⟨0, Nat.zero_le _, rfl, World.ownsRow_nil _ _ _ _, Below.refl _ _, Lib.hid rfl⟩
    case round =>
      obtain ⟨k, hk, rfl, hown, hbw, HF⟩ := hrel
      by_cases hlt : k < ps.length
      · have hpk : ps[k]? = some ps[k] := List.getElem?_eq_getElem hlt
        obtain ⟨b, off, rfl, hcell⟩ := hat k ps[k] hpk
        have hbel : Below W0.heap.size W0 wr := hB0.trans (hbw.mono hB0.size)
        have hhold := Holds.below hbel
        have HP := Lib.hid (show (ps.drop k).map (·.name) = ps[k].name :: (ps.drop (k + 1)).map (·.name) by rw [List.drop_eq_getElem_cons hlt]; rfl)
        have HT := Lib.hid (List.take_succ_eq_append_getElem hlt)
        have hsz := hz ps[k] (List.getElem_mem hlt)
        have hlt' : (k : Int) < ps.length := by omega
        have hbs := hbw.size
        obtain ⟨va, vr, hv, e0, e1, e2, e3, e4⟩ := hcell
        obtain ⟨oa, ca, rfl⟩ := hv.args.form
        obtain ⟨orr, cr, rfl⟩ := hv.raises.form
        have d0 : wr.cell? ⟨b, off + k * 5, none⟩ = some (.string ps[k].name) := hhold _ _ e0
        have d1 : wr.cell? ⟨b, off + k * 5 + 1, none⟩ = some (.slice oa ps[k].args.length ca) := hhold _ _ e1
        have d2 : wr.cell? ⟨b, off + k * 5 + 2, none⟩ = some (.int .i64 ps[k].result) := hhold _ _ e2
        have d3 : wr.cell? ⟨b, off + k * 5 + 3, none⟩ = some (.slice orr ps[k].raises.length cr) := hhold _ _ e3
        have d4 : wr.cell? ⟨b, off + k * 5 + 4, none⟩ = some (.string ps[k].proc) := hhold _ _ e4
        have hnm := isName_any ps[k].name hsz
        clear hat hv e0 e1 e2 e3 e4 hbel hpk hhold hz hsz
        have BL := (hbw.alloc hbs (.cells #[.string ps[k].name, .slice oa ps[k].args.length ca, .int .i64 ps[k].result, .slice orr ps[k].raises.length cr, .string ps[k].proc] 74)).alloc (Nat.le_trans hbs (by simp)) (.cells #[.string ps[k].name, .slice oa ps[k].args.length ca, .int .i64 ps[k].result, .slice orr ps[k].raises.length cr, .string ps[k].proc] 74)
        have RO := (hown.alloc (.cells #[.string ps[k].name, .slice oa ps[k].args.length ca, .int .i64 ps[k].result, .slice orr ps[k].raises.length cr, .string ps[k].proc] 74)).alloc (.cells #[.string ps[k].name, .slice oa ps[k].args.length ca, .int .i64 ps[k].result, .slice orr ps[k].raises.length cr, .string ps[k].proc] 74)
        have hlen : ((ps.take k).map fun p => (Value.string p.name)).length = k := by simp; omega
        have hlen2 : ((ps.take k).map (·.name)).length = k := by simp; omega
        have hmap : ((ps.take k).map fun p => (Value.string p.name)) = ((ps.take k).map (·.name)).map Value.string := by rw [List.map_map]; rfl
        cases hnb : nameB (bs ps[k].name) with
        | false =>
          rw [hnb] at hnm
          have HM := hide hnm
          have HX := Lib.hid (show namedFrom [] (ps.map (·.name)) = false by rw [HF.out, HP.out]; rw [namedFrom_cons, hnb]; rfl)
          clear hnm hnb hown HF HP HT RO hmap hlen hlen2
          go_wp2_with (first | (go_at_call 276; refine (clo276 _).mono ?_; rintro e w4 ⟨rfl, rfl⟩) | (go_at_call 19; refine (unhide HM _).mono ?_; rintro e w4 ⟨rfl, rfl⟩))
          go_ret
          exact ⟨ret_bool (by rw [HN.out, HX.out]), BL⟩
        | true =>
          rw [hnb] at hnm
          have HM := hide hnm
          have HX := Lib.hid (show namedFrom [] (ps.map (·.name)) = (!Lib.containsS ((ps.take k).map (·.name)) ps[k].name && namedFrom ((ps.take k).map (·.name) ++ [ps[k].name]) ((ps.drop (k + 1)).map (·.name))) by
            rw [HF.out, HP.out]; rw [namedFrom_cons, hnb]; rfl)
          have HC : Hide (∀ w', w' = ((wr.alloc (.cells #[.string ps[k].name, .slice oa ps[k].args.length ca, .int .i64 ps[k].result, .slice orr ps[k].raises.length cr, .string ps[k].proc] 74)).alloc (.cells #[.string ps[k].name, .slice oa ps[k].args.length ca, .int .i64 ps[k].result, .slice orr ps[k].raises.length cr, .string ps[k].proc] 74)) → Calls Tryz.prog 281 #[u5, .string ps[k].name] w' fun e w2 => e = .returned (.bool (Lib.containsS ((ps.take k).map (·.name)) ps[k].name)) ∧ w2 = w') := by
            rintro w' rfl
            rcases hown.2 with ⟨rfl, hk0⟩ | ⟨g, cap2, cur, rfl, hg⟩
            · subst hk0
              exact Tryz.slices_Contains_string_empty none 0 _ _
            · have := Tryz.slices_Contains_string g 0 k cap2 ((ps.take k).map (·.name)) ps[k].name ((wr.alloc (.cells #[.string ps[k].name, .slice oa ps[k].args.length ca, .int .i64 ps[k].result, .slice orr ps[k].raises.length cr, .string ps[k].proc] 74)).alloc (.cells #[.string ps[k].name, .slice oa ps[k].args.length ca, .int .i64 ps[k].result, .slice orr ps[k].raises.length cr, .string ps[k].proc] 74)) (by omega) (by omega) (fun j hj => by
                rw [Nat.zero_add, Row1.cells RO j (by omega), hmap]; exact strs_get _ _ hj)
              rwa [List.take_of_length_le (by omega)] at this
          clear hnm hnb HF HP hmap
          generalize hcb : Lib.containsS ((ps.take k).map (·.name)) ps[k].name = cb at HX HC
          clear hcb
          cases cb with
          | true =>
            clear hown RO hlen hlen2 HT
            go_wp2_with (first | (go_at_call 276; refine (clo276 _).mono ?_; rintro e w4 ⟨rfl, rfl⟩) | (go_at_call 19; refine (unhide HM _).mono ?_; rintro e w4 ⟨rfl, rfl⟩) | (go_at_call 281; refine (unhide HC _ rfl).mono ?_; rintro e w4 ⟨rfl, rfl⟩))
            go_ret
            exact ⟨ret_bool (by rw [HN.out, HX.out]; rfl), BL⟩
          | false =>
            have RO2 := RO.alloc (.cells #[.string ps[k].name] 9)
            have BL2 := BL.alloc BL.size (.cells #[.string ps[k].name] 9)
            have HL := Lib.hid hlen
            clear hown RO BL hlen2 hlen
            go_wp2_with (first | (go_at_call 276; refine (clo276 _).mono ?_; rintro e w4 ⟨rfl, rfl⟩) | (go_at_call 19; refine (unhide HM _).mono ?_; rintro e w4 ⟨rfl, rfl⟩) | (go_at_call 281; refine (unhide HC _ rfl).mono ?_; rintro e w4 ⟨rfl, rfl⟩) | (at_builtin; refine app_one _ _ 70 9 (.string ⟨#[]⟩) 16 info9 Tryz.underlying70 rfl (by decide) rfl rfl W.heap.size _ ((ps.take k).map fun p => .string p.name) rfl (by rw [HL.out]; exact RO2) _ (.string ps[k].name) rfl ?c1 rfl (by rw [HL.out]; omega) BL2.size ?_))
            case c1 =>
              have hb := (Blk.new ((wr.alloc (.cells #[.string ps[k].name, .slice oa ps[k].args.length ca, .int .i64 ps[k].result, .slice orr ps[k].raises.length cr, .string ps[k].proc] 74)).alloc (.cells #[.string ps[k].name, .slice oa ps[k].args.length ca, .int .i64 ps[k].result, .slice orr ps[k].raises.length cr, .string ps[k].proc] 74)) [.string ps[k].name] 9).cell 0
              rw [World.size_alloc, World.size_alloc] at hb
              exact hb
            intro g cap2 w5 hown' _ hbl
            have BL3 := hbl _ _ BL2 (Nat.le_refl _)
            clear BL2 RO2 hbl
            go_wp2
            go_roundw
            case rel => exact ⟨k + 1, by omega, by go_num, by rw [HT.out, List.map_append, List.map_take]; exact hown', BL3, Lib.hid (by rw [HX.out, HT.out, List.map_append]; rfl)⟩
            case measure => simp [intOf]; omega
      · obtain rfl : k = ps.length := by omega
        have HX := Lib.hid (show namedFrom [] (ps.map (·.name)) = true by rw [HF.out, List.drop_length]; rfl)
        go_wp2
        go_ret
        exact ⟨ret_bool (by rw [HN.out, HX.out]), hbw⟩
  · have HN := Lib.hid (show namedB (ps.map (·.name)) = false by unfold namedB; simp [h8])
    have h8' : (8 : Int) < ps.length := by omega
    clear hP hat
    go_enter Tryz.func275, Tryz.ntmps275
    go_wp2
    go_ret
    exact ⟨ret_bool (by rw [HN.out]), Below.refl _ _⟩
end Go.Proofs.YteaokkaidcbdlaaGreatDoor

