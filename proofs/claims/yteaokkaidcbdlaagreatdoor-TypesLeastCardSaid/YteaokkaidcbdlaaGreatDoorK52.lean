/- Part 52 of 53: the texts Ub, Vh, Vj, one behind the other. -/
import Derived.Test.YteaokkaidcbdlaaGreatDoorK50
import Derived.Test.YteaokkaidcbdlaaGreatDoorK51
import Derived.Tactics
import Derived.Tactics2
import Derived.WalkKit
import Derived.LoopTactic
import Derived.Outline
import Derived.Lib.Hide
import Derived.Handy
import Derived.KernelRfl
import Derived.Deep.LoopGhost
import Derived.CallsIn
import Derived.Deep.QuietTactic
import Derived.BigQuiet
import Derived.Deep.Draws
import Derived.WalkSpells
import Derived.Lib.Walk
import Derived.Lib.Strings
import Derived.Maps.OwnOps
import Derived.Maps.OwnSet
import Derived.Deep.RegionWith
import Derived.StillTailTactics
import Derived.WalkMore
import Derived.RangeFuncNested
import Derived.RangeFuncBound
import Derived.RangeFuncCalls
import Derived.RangeFuncLeaves
import Derived.RangeFuncBox
import Derived.Shelf.Abstract
import Derived.OwnWalkIn
import Derived.TacticsInMore
import Derived.LoopNIn
import Derived.LoopIn
import Derived.RecoverIn
import Derived.Maps.AppendAt
import Derived.RegionTactic
import Derived.ChangeAlike
import Derived.OwnWalk
import Derived.Deep.AppendLies
import Derived.Deep.DeepCutAuto
import Derived.Deep.RegionLaw
import Derived.Deep.RegionHeld3
import Derived.Laws.EntriesVeiled
import Derived.Test.YteaokkaidcbdlaaGreatDoorK49
import Derived.Test.YteaokkaidcbdlaaGreatDoorK10
import Derived.Test.YteaokkaidcbdlaaGreatDoorK45
import Derived.Test.YteaokkaidcbdlaaGreatDoorK31
import Derived.Test.YteaokkaidcbdlaaGreatDoorK39
import Derived.Handed
import Derived.HandedShaped
import Derived.ProofKit
import Derived.OpenShut
import Derived.LaidMore
import Derived.Lay
import Derived.SevenTiedAt
import Derived.Stop.Joined
import Derived.Lib.LaidU8
import Derived.Lib.LaidTab
import Derived.Carry
namespace Go.Proofs.YteaokkaidcbdlaaGreatDoor
open Go Go.RowKit Go.Shelf
theorem eqF_refl {α : Type} {f : α → α → Bool} (h : ∀ x, f x x = true) (l : List α) : eqF f l l = true := by
  unfold eqF
  rw [decide_eq_true rfl, Bool.true_and, List.all_eq_true]
  intro p hp
  obtain ⟨q, hq, rfl⟩ := List.mem_iff_getElem.1 hp
  rw [List.getElem_zip]
  exact h _
theorem tyR_refl (a : TyD) : tyR a a = true := by
  have s : ∀ b : ByteArray, sameS b b = true := fun b => by unfold sameS; simp
  unfold tyR agR plainB
  simp only [s, beq_self_eq_true, Bool.and_self, Bool.true_and, decide_true]
  rw [eqF_refl (fun p => by unfold partR; simp [s]), eqF_refl (fun m => by unfold methR; simp [s, eqF_refl s]), eqF_refl (fun p => by unfold overFitB; simp [s]), eqF_refl (fun p => by unfold partE; simp [s]), eqF_refl (fun m => by unfold methE; simp [eqF_refl (f := fun i j : Int => decide (i = j)) (fun i => by simp)])]
  rfl
end Go.Proofs.YteaokkaidcbdlaaGreatDoor

namespace Go.Proofs.YteaokkaidcbdlaaGreatDoor
open Go Go.RowKit Go.Shelf
set_option maxRecDepth 100000 in
set_option maxHeartbeats 16000000 in
theorem least_law (gv : Value) (G : List TyD) (a : Int) (W : World) (hG : GrAt W gv G) (hq : ∀ t ∈ G, TyZ t ∧ t.kind < 256) (hP : P10 W.heap.size W) :
    Calls Tryz.prog 11 #[gv, .int .i64 a] W fun e w' => e = .returned (.bool true) ∧ Below W.heap.size W w' := by
  have HL := hide (light_any gv G W hG)
  have HAl := hide (fun w (h : Below W.heap.size W w) => alive_any w (hP.more h))
  cases hlt : lightB G with
  | false =>
    rw [hlt] at HL
    obtain ⟨o, cap, rfl⟩ := hG.form
    clear hG hP hq
    go_enter Tryz.func11, Tryz.ntmps11
    go_wp2_with (first | (go_at_call 13; refine (unhide HL).mono ?_; rintro e w1 ⟨rfl, hb1⟩) | (go_at_call 14; refine (unhide HAl _ hb1).mono ?_; rintro e w2 ⟨rfl, hb2⟩))
    go_ret
    exact ⟨rfl, hb1.trans (hb2.mono hb1.size)⟩
  | true =>
    rw [hlt] at HL
    have hz := light_z hq hlt
    have HM := hide (fun w (h : Below W.heap.size W w) => merge_any gv G w (hG.below h) hz)
    have HT := hide (fun w (h : Below W.heap.size W w) => text_all gv G a w (hG.below h) hz (hP.more h))
    have HPM := hide (fun w (h : Below W.heap.size W w) => hP.more h)
    obtain ⟨o, cap, rfl⟩ := hG.form
    by_cases hc0 : checkedR G [] = 0
    · have hc := (checkedR_zero.1 hc0).1
      rw [hc0] at HM
      simp only [if_true] at HM
      by_cases hf : (textL G a).2 = 0
      ·
        have ha : checkedR G [a] = 0 := by
          unfold textL at hf
          by_cases h : checkedR G [a] = 0
          · exact h
          · rw [if_neg h] at hf; exact absurd hf h
        obtain ⟨i, rfl, hi⟩ : ∃ i : Nat, a = i ∧ i < G.length := by
          have := (checkedR_zero.1 ha).2
          simp only [List.all_cons, List.all_nil, Bool.and_true] at this
          have := idxB_iff.1 this
          obtain ⟨i, rfl⟩ := Int.eq_ofNat_of_zero_le this.1
          exact ⟨i, rfl, by omega⟩
        have hz' := merge_z hz
        have hc' := merge_check hz hc
        have hTX := merge_text hz hc hi
        have hML := merge_again hz hc
        have hMS := merge_same hz hc
        have hTM : (mergeL G).2[i]? = some (toM G i) := by
          have hl : i < (mergeL G).2.length := by
            show i < (mergeS (clF G) G.length).2.length
            rw [(mergeS_len (clF G) G.length).1]; exact hi
          unfold toM
          simp [List.getD_eq_getElem?_getD, List.getElem?_eq_getElem hl]
        have hcl := fun k (hk : k < (mergeT G).length) => merge_cl hz hc hk
        have hml : (mergeT G).length ≤ 410 := hz'.len
        rw [hf] at HT
        have HTM := Lib.hid hTM
        have HI := Lib.hid hi
        have HZ := hide hz'
        have hc0' : checkedR (mergeT G) [] = 0 := checkedR_zero.2 ⟨hc', by simp⟩
        have HCL := hide hcl
        have HTX := Lib.hid hTX
        have HF := Lib.hid hf
        have HML := Lib.hid hML
        have HMS := Lib.hid hMS
        have HC0' := Lib.hid hc0'
        clear hG hP hq hz hlt hc0 hc ha hz' hc' hTX hML hMS hTM hcl hf hc0'
        have H32 := hide (fun (u : Value) (w : World) (hg : GrAt w u (mergeT G)) => classes_all u (mergeT G) w hg (unhide HZ))
        have H34 := hide (fun (u : Value) (w : World) (hg : GrAt w u (mergeT G)) => merge_any u (mergeT G) w hg (unhide HZ))
        have H42 := hide (fun (u : Value) (w : World) (hg : GrAt w u (mergeT G)) (hp : P10 w.heap.size w) => text_all u (mergeT G) (toM G i : Nat) w hg (unhide HZ) hp)
        rw [HC0'.out] at H32 H34
        simp only [if_true] at H32 H34
        rw [HMS.out, HML.out] at H34
        rw [HTX.out, HF.out] at H42
        have H37 := hide (fun (u u' : Value) (w : World) (hg : GrAt w u (mergeT G)) (hg' : GrAt w u' (mergeT G)) => refSame_any u u' (mergeT G) (mergeT G) w hg hg')
        rw [eqF_refl tyR_refl] at H37
        obtain ⟨S, hS⟩ : ∃ S, (textL G i).1 = S := ⟨_, rfl⟩
        rw [hS] at HT H42
        clear hS
        obtain ⟨n, hn⟩ : ∃ n, G.length = n := ⟨_, rfl⟩
        have HN := Lib.hid hn
        rw [hn] at HL HM HT hi ⊢
        clear hn
        have hi' : (i : Int) < n := by omega
        go_enter Tryz.func11, Tryz.ntmps11
        go_wp2_with fail
        refine (unhide HL).mono ?_
        rintro e w1 ⟨rfl, hb1⟩
        go_wp2_with fail
        refine (unhide HM _ hb1).mono ?_
        rintro e w2 ⟨v, m, rfl, hb2, ⟨es, hes, hown⟩, hrow⟩
        have L2 := hb1.trans (hb2.mono hb1.size)
        have hgr := hown.gr
        rw [hes] at hgr
        obtain ⟨ov, cv, rfl⟩ := hgr.form
        obtain ⟨om, cm, rfl⟩ := row_form hrow
        have HGR := hide hgr
        have HROW := hide hrow
        clear hgr hrow hown hes hb1 hb2
        have L2' := hide L2
        clear L2
        go_wp2_with fail
        refine (unhide HT _ (unhide L2')).mono ?_
        rintro e w3 ⟨rfl, hb3⟩
        have L3 := hide ((unhide L2').trans (hb3.mono (unhide L2').size))
        have GR3 := hide ((unhide HGR).below hb3)
        have RW3 := hide (Row.below (unhide HROW) hb3)
        clear hb3 HGR HROW
        go_wp2_with fail
        refine (unhide H32 _ _ (unhide GR3)).mono ?_
        rintro e w4 ⟨v4, rfl, hb4, hr4⟩
        obtain ⟨o4, c4, rfl⟩ := row_form hr4
        have L4 := hide ((unhide L3).trans (hb4.mono (unhide L3).size))
        have GR4 := hide ((unhide GR3).below hb4)
        have RW4 := hide (Row.below (unhide RW3) hb4)
        have R4 := hide hr4
        clear hb4 hr4 GR3 RW3
        go_wp2_with fail
        refine (unhide H34 _ _ (unhide GR4)).mono ?_
        rintro e w5 ⟨v5, m5, rfl, hb5, ⟨es5, hes5, hown5⟩, hr5⟩
        have hgr5 := hown5.gr
        rw [hes5] at hgr5
        obtain ⟨o5, c5, rfl⟩ := hgr5.form
        obtain ⟨o6, c6, rfl⟩ := row_form hr5
        have L5 := hide ((unhide L4).trans (hb5.mono (unhide L4).size))
        have GR5 := hide ((unhide GR4).below hb5)
        have RW5 := Row.below (unhide RW4) hb5
        have R5 := hide (Row.below (unhide R4) hb5)
        have GN5 := hide hgr5
        have RN5 := hide hr5
        obtain ⟨g, rfl⟩ := row_some RW5 (by omega : 0 < n)
        have hcell : w5.cell? ⟨g, i, none⟩ = some (.int .i64 (toM G i : Nat)) := by
          rw [Row1.cells RW5 i hi]
          unfold natsV natI
          rw [List.getElem?_map, HTM.out]; rfl
        clear hb5 hr5 hgr5 hes5 hown5 RW5 GR4 RW4 R4 L4
        go_wp2_with fail
        refine (unhide H42 _ _ (unhide GR5) (unhide HPM _ (unhide L5))).mono ?_
        rintro e w6 ⟨rfl, hb6⟩
        have L6 := hide ((unhide L5).trans (hb6.mono (unhide L5).size))
        have GR6 := hide ((unhide GR5).below hb6)
        have GN6 := hide ((unhide GN5).below hb6)
        have R6 := hide (Row.below (unhide R5) hb6)
        have RN6 := hide (Row.below (unhide RN5) hb6)
        have hss : (S.toList == S.toList) = true := by simp
        have hsn := bne_of hss
        clear hcell hb6 GR5 GN5 R5 RN5
        go_wp2_with fail
        refine (unhide H37 _ _ _ (unhide GR6) (unhide GN6)).mono ?_
        rintro e w7 ⟨rfl, hb7⟩
        have L7 := hide ((unhide L6).trans (hb7.mono (unhide L6).size))
        have R7 := hide (Row.below (unhide R6) hb7)
        have RN7 := hide (Row.below (unhide RN6) hb7)
        obtain ⟨M, hM⟩ : ∃ M, (mergeT G).length = M := ⟨_, rfl⟩
        have HMM := Lib.hid hM
        rw [hM] at hml ⊢
        have hMM : ((M : Int) == M) = true := by simp
        clear hb7 hM GR6 GN6 R6 RN6 L6
        have K7 := hide (fun w (h : Below w7.heap.size w7 w) k (hk : k < M) => (show ∃ g4 g6, o4 = some ⟨g4, 0, none⟩ ∧ o6 = some ⟨g6, 0, none⟩ ∧ w.cell? ⟨g4, k, none⟩ = some (.int .i64 (k : Nat)) ∧ w.cell? ⟨g6, k, none⟩ = some (.int .i64 (k : Nat)) from by
          have r1 := Row.below (unhide R7) h
          have r2 := Row.below (unhide RN7) h
          have hkT : k < (mergeT G).length := by rw [HMM.out]; exact hk
          obtain ⟨g4, rfl⟩ := row_some r1 (by omega : 0 < (mergeT G).length)
          obtain ⟨g6, rfl⟩ := row_some r2 (by omega : 0 < (mergeT G).length)
          refine ⟨g4, g6, rfl, rfl, ?_, ?_⟩
          · have := classes_cell r1 k hkT
            rw [unhide HCL k hkT] at this
            exact this
          · rw [Row1.cells r2 k hkT]
            unfold natsV natI
            rw [List.getElem?_map, List.getElem?_range hkT]; rfl))
        clear R7 RN7
        go_wp2_with fail
        go_loopg [17] M (fun g q wr => ∃ k : Nat, k ≤ M ∧ g = M - k ∧ q = .int .i64 k ∧ Below w7.heap.size w7 wr)
        case atStart => exact ⟨0, Nat.zero_le _, rfl, rfl, Below.refl _ _⟩
        case round =>
          obtain ⟨k, hk, hgk, rfl, hbw⟩ := hrel
          have hbW := (unhide L7).trans (hbw.mono (unhide L7).size)
          by_cases hkM : k < M
          · have hkM' : (k : Int) < M := by omega
            obtain ⟨g4, g6, rfl, rfl, x1, x2⟩ := unhide K7 wr hbw k hkM
            have hkk : ((k : Int) == k) = true := by simp
            go_wp2
            go_roundg (M - (k + 1))
            case measure => omega
            case rel => exact ⟨k + 1, by omega, rfl, by go_num, hbw⟩
          · have hkM' : ¬ (k : Int) < M := by omega
            go_wp2_with fail
            refine (unhide HAl _ hbW).mono ?_
            rintro e w8 ⟨rfl, hb8⟩
            go_wp2
            go_ret
            exact ⟨rfl, hbW.trans (hb8.mono hbW.size)⟩
      · clear hc hG hP hq hz hlt hc0
        generalize (textL G a).2 = f at HT hf
        generalize (textL G a).1 = S at HT
        go_enter Tryz.func11, Tryz.ntmps11
        go_wp2_with fail
        refine (unhide HL).mono ?_
        rintro e w1 ⟨rfl, hb1⟩
        go_wp2_with fail
        refine (unhide HM _ hb1).mono ?_
        rintro e w2 ⟨v, m, rfl, hb2, -, -⟩
        have L2 := hb1.trans (hb2.mono hb1.size)
        go_wp2_with fail
        refine (unhide HT _ L2).mono ?_
        rintro e w3 ⟨rfl, hb3⟩
        have L3 := L2.trans (hb3.mono L2.size)
        go_wp2_with fail
        refine (unhide HAl _ L3).mono ?_
        rintro e w4 ⟨rfl, hb4⟩
        go_wp2
        go_ret
        exact ⟨rfl, L3.trans (hb4.mono L3.size)⟩
    · generalize hck : checkedR G [] = ck at HM hc0
      simp only [if_neg hc0] at HM
      clear hck hG hP hq hz hlt
      generalize (textL G a).2 = f at HT
      generalize (textL G a).1 = S at HT
      go_enter Tryz.func11, Tryz.ntmps11
      go_wp2_with fail
      refine (unhide HL).mono ?_
      rintro e w1 ⟨rfl, hb1⟩
      go_wp2_with fail
      refine (unhide HM _ hb1).mono ?_
      rintro e w2 ⟨v, m, rfl, hb2, rfl, rfl⟩
      have L2 := hb1.trans (hb2.mono hb1.size)
      go_wp2_with fail
      refine (unhide HT _ L2).mono ?_
      rintro e w3 ⟨rfl, hb3⟩
      have L3 := L2.trans (hb3.mono L2.size)
      go_wp2_with fail
      refine (unhide HAl _ L3).mono ?_
      rintro e w4 ⟨rfl, hb4⟩
      go_wp2
      go_ret
      exact ⟨rfl, L3.trans (hb4.mono L3.size)⟩
end Go.Proofs.YteaokkaidcbdlaaGreatDoor

namespace Go.Proofs.YteaokkaidcbdlaaGreatDoor
open Go Go.RowKit Go.Shelf
open Go.ChangeShapes Go.WideShapes Go.ChangeAt
open Go.ChangeMaps (open_string shut_string)
set_option maxRecDepth 100000
theorem typesLeast_lifted (os : Os) (started : os.Started) (H : Type) (enc : TypeId × Value → H) :
    ReturnsInHanded {} Tryz.checked os 11 .any (fun w args => (Rows.typesLeastSpec.pre enc Tryz.prog Tryz.f11 Rows.typesLeastRow.domain false w args ∧ laidMetH Tryz.prog Rows.typesLeastRow.laid w) ∧ sizedMet enc Tryz.prog Tryz.f11 (OpenSpec.ofChange Rows.typesLeastSpec) false w args)
      (Rows.typesLeastSpec.post enc Tryz.prog Tryz.f11 false true false false) := by
  refine handed_both (C := Tryz.checked) (X := fun w _ => laidMetH Tryz.prog Rows.typesLeastRow.laid w) (fun _ _ _ hh h => h.of_heap hh) own started (by kernel_rfl) Tryz.func11
    (ChangeSpec.witness_shaped (enc := enc) (C := Tryz.checked) (os := os) (X := fun w _ => laidMetH Tryz.prog Rows.typesLeastRow.laid w) false (World.laidAll Tryz.prog os Rows.typesLeastRow.laid) #[.slice none 0 0, .int .i64 0] 8 (World.laidAll_os _ _ _)
      (World.shaped_of_ZipB (by kernel_rfl) (by kernel_rfl)) (by kernel_rfl) (by kernel_rfl) (by kernel_rfl)
      (by rw [MakeChecks.laidMetH_plain _ _ _ (by kernel_rfl)]; exact laidMet_laidAll _ (by kernel_rfl) (by kernel_rfl))) ?_
  intro W base args ds gs before hval0 hW hL hsh
  have hval : ∀ (j : Nat) t v, Tryz.f11.params[j]? = some t → args[j]? = some v → Value.okWide Tryz.prog W .any base t v := hval0
  have hW' := hW
  obtain ⟨p, q, hA0, hV, rfl, _, _⟩ := hW
  have hA : DataW.TrodAll enc Tryz.prog W 0 (fun _ => true) true Tryz.f11.params.toList args.toList ds p := hA0
  rw [Tryz.params11] at hA hval
  obtain ⟨v0, v1, d0, d1, p0, p1, rfl, rfl, rfl, h0, h1⟩ := trodAll_two hA
  obtain ⟨rfl, rfl⟩ := trodVars_none hV
  obtain ⟨a0, l0, k0, rfl⟩ := okWide_slice Tryz.underlying23 (hval 0 23 v0 rfl rfl)
  obtain ⟨x1, rfl, rfl, rfl, w1⟩ := open_int Tryz.underlying3 (hval 1 3 v1 rfl rfl) h1
  simp only [List.append_nil] at hW'
  have hlt0 : ∀ x ∈ p0, x.block < W.heap.size := fun x hx => hW'.lt x (by simp [hx])
  rw [MakeChecks.laidMetH_plain _ _ _ (by kernel_rfl)] at hL
  have hP := p10_of hL (by simp [Rows.typesLeastRow])
  obtain ⟨G0, hG0, hq0⟩ := graph_arg h0
  refine (least_law _ G0 x1 W hG0 hq0 hP).mono fun e W' ⟨he, hb⟩ => ?_
  subst he
  exact ⟨_, rfl, _, _, _, [], p0, [], hW', trodAll_mk1 (shut_bool Tryz.underlying4 _), by
    have := trodAll_mk2 (graph_again h0 hb hlt0) (shut_int Tryz.underlying3 w1)
    (try simp only [List.nil_append] at this)
    (try simp only [List.append_nil] at this)
    exact this, rfl, hb.frame _, fun h => by cases h⟩
end Go.Proofs.YteaokkaidcbdlaaGreatDoor

