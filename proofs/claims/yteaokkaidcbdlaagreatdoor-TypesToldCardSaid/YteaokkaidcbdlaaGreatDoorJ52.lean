/- Part 52 of 53: the texts Vs, Vu, one behind the other. -/
import Derived.Test.YteaokkaidcbdlaaGreatDoorJ48
import Derived.Test.YteaokkaidcbdlaaGreatDoorJ51
import Derived.Test.YteaokkaidcbdlaaGreatDoorJ44
import Derived.Tactics
import Derived.Tactics2
import Derived.WalkKit
import Derived.LoopTactic
import Derived.Outline
import Derived.Lib.Hide
import Derived.Handy
import Derived.KernelRfl
import Derived.Deep.LoopGhost
import Derived.CallsIn
import Derived.Deep.QuietTactic
import Derived.BigQuiet
import Derived.Deep.Draws
import Derived.WalkSpells
import Derived.Lib.Walk
import Derived.Lib.Strings
import Derived.Maps.OwnOps
import Derived.Maps.OwnSet
import Derived.Deep.RegionWith
import Derived.StillTailTactics
import Derived.WalkMore
import Derived.RangeFuncNested
import Derived.RangeFuncBound
import Derived.RangeFuncCalls
import Derived.RangeFuncLeaves
import Derived.RangeFuncBox
import Derived.Shelf.Abstract
import Derived.OwnWalkIn
import Derived.TacticsInMore
import Derived.LoopNIn
import Derived.LoopIn
import Derived.RecoverIn
import Derived.Maps.AppendAt
import Derived.RegionTactic
import Derived.ChangeAlike
import Derived.OwnWalk
import Derived.Deep.AppendLies
import Derived.Deep.DeepCutAuto
import Derived.Deep.RegionLaw
import Derived.Deep.RegionHeld3
import Derived.Laws.EntriesVeiled
import Derived.Test.YteaokkaidcbdlaaGreatDoorJ39
import Derived.Handed
import Derived.HandedShaped
import Derived.ProofKit
import Derived.OpenShut
import Derived.LaidMore
import Derived.Lay
import Derived.SevenTiedAt
import Derived.Stop.Joined
import Derived.Lib.LaidU8
import Derived.Lib.LaidTab
import Derived.Carry
namespace Go.Proofs.YteaokkaidcbdlaaGreatDoor
open Go Go.RowKit Go.Shelf
theorem lines_inj_on {α : Type} {f : α → List UInt8} : ∀ {A B : List α}, (∀ a ∈ A, ∃ l, f a = l ++ [10] ∧ (10 : UInt8) ∉ l) → (∀ a ∈ B, ∃ l, f a = l ++ [10] ∧ (10 : UInt8) ∉ l) → A.flatMap f = B.flatMap f → A.map f = B.map f
  | [], [], _, _, _ => rfl
  | [], b :: B, _, hb, h => by
    obtain ⟨l, e, -⟩ := hb b (by simp)
    rw [List.flatMap_nil, List.flatMap_cons, e] at h
    simp at h
  | a :: A, [], ha, _, h => by
    obtain ⟨l, e, -⟩ := ha a (by simp)
    rw [List.flatMap_nil, List.flatMap_cons, e] at h
    simp at h
  | a :: A, b :: B, ha, hb, h => by
    obtain ⟨l, e, hl⟩ := ha a (by simp)
    obtain ⟨m, e2, hm⟩ := hb b (by simp)
    rw [List.flatMap_cons, List.flatMap_cons, e, e2, List.append_assoc, List.append_assoc] at h
    have ht : ∀ z : List UInt8, (10 : UInt8) ∉ z → z.all (fun c => !(c == 10)) = true := fun z hz => by
      rw [List.all_eq_true]
      intro c hc
      have : c ≠ 10 := fun e => hz (e ▸ hc)
      simpa using this
    obtain ⟨h1, h2⟩ := span_inj (p := fun c => !(c == 10)) (ht l hl) (ht m hm) (fun c hc => by simp at hc; subst hc; rfl) (fun c hc => by simp at hc; subst hc; rfl) h
    rw [List.cons_append, List.cons_append, List.cons.injEq] at h2
    rw [List.map_cons, List.map_cons, e, e2, h1, lines_inj_on (A := A) (B := B) (fun x hx => ha x (List.mem_cons_of_mem _ hx)) (fun x hx => hb x (List.mem_cons_of_mem _ hx)) (by simpa using h2.2)]
theorem text_inj {A B : List TyD} (hA : ∀ t ∈ A, TLn t) (hB : ∀ t ∈ B, TLn t) (h : textW A = textW B) : A = B :=
  map_inj_on (fun _ hx _ hy e => line_inj (hA _ hx) (hB _ hy) e) (lines_inj_on (fun t ht => line_ten (hA t ht)) (fun t ht => line_ten (hB t ht)) h)
theorem toF_nn (l : List Nat) (x : Int) : 0 ≤ toF (l.map Int.ofNat) x := by
  unfold toF
  rw [getD_ofNat]
  omega
theorem numT_ln {G : List TyD} (hz : GrZ G) (hc : (checkR G).2 = 0) {a : Nat} (ha : a < G.length) : ∀ t ∈ numT G a, TLn t := fun t ht => by
  unfold numT at ht
  obtain ⟨r, hr, rfl⟩ := List.mem_map.1 ht
  exact map_ln (toF_nn _) (tyB_ln (check_ty hc r (numR_rep (check_fit hz hc) ha r hr).1))
theorem text_class {G : List TyD} (hz : GrZ G) (hc : (checkR G).2 = 0) {i j : Nat} (hi : i < G.length) (hj : j < G.length) : (textL G i).1 = (textL G j).1 ↔ clF G i = clF G j := by
  have hk : ∀ x : Nat, x < G.length → checkedR G [(x : Int)] = 0 := fun x hx => checkedR_zero.2 ⟨hc, by
    rw [List.all_cons, List.all_nil, Bool.and_true]
    exact idxB_iff.2 ⟨by omega, by omega⟩⟩
  have e : ∀ x : Nat, x < G.length → (textL G x).1 = ⟨(textW (numT G x)).toArray⟩ := fun x hx => by
    unfold textL
    rw [if_pos (hk x hx)]
    simp
  rw [e i hi, e j hj]
  constructor
  · intro h
    have h : textW (numT G i) = textW (numT G j) := by
      have := congrArg (fun s : ByteArray => s.data.toList) h
      simpa using this
    have hT := text_inj (numT_ln hz hc hi) (numT_ln hz hc hj) h
    refine numT_class hz hc hi hj fun q a b h1 h2 => ?_
    rw [hT, h2] at h1
    have := Option.some.inj h1
    subst this
    exact ⟨rfl, rfl⟩
  · intro h
    have hr : numR G i = numR G j := by unfold numR reachL; rw [h]
    have ht : numT G i = numT G j := by unfold numT numTo; rw [hr]
    rw [ht]
theorem told_m {G : List TyD} (hz : GrZ G) (hc : (checkR G).2 = 0) {i j : Nat} (hi : i < G.length) (hj : j < G.length) : ToldM G i j :=
  ⟨text_class hz hc hi hj, (tell_spec (check_fit hz hc) hi hj).2, (tell_spec (check_fit hz hc) hi hj).1⟩
theorem told_law (gv vw : Value) (G : List TyD) (a b : Int) (way : List Int) (W : World) (hG : GrAt W gv G) (hq : ∀ t ∈ G, TyZ t ∧ t.kind < 256) (hw : SliceOf 1 (IntAt W) vw way) (hP : P10 W.heap.size W) :
    Calls Tryz.prog 10 #[gv, .int .i64 a, .int .i64 b, vw] W fun e w' => e = .returned (.bool true) ∧ Below W.heap.size W w' :=
  told_law' gv vw G a b way W (fun hz hc _ _ hi hj => told_m hz hc hi hj) hG hq hw hP
end Go.Proofs.YteaokkaidcbdlaaGreatDoor

namespace Go.Proofs.YteaokkaidcbdlaaGreatDoor
open Go Go.RowKit Go.Shelf
open Go.ChangeShapes Go.WideShapes Go.ChangeAt
open Go.ChangeMaps (open_string shut_string)
set_option maxRecDepth 100000
theorem typesTold_lifted (os : Os) (started : os.Started) (H : Type) (enc : TypeId × Value → H) :
    ReturnsInHanded {} Tryz.checked os 10 .any (fun w args => (Rows.typesToldSpec.pre enc Tryz.prog Tryz.f10 Rows.typesToldRow.domain false w args ∧ laidMetH Tryz.prog Rows.typesToldRow.laid w) ∧ sizedMet enc Tryz.prog Tryz.f10 (OpenSpec.ofChange Rows.typesToldSpec) false w args)
      (Rows.typesToldSpec.post enc Tryz.prog Tryz.f10 false true false false) := by
  refine handed_both (C := Tryz.checked) (X := fun w _ => laidMetH Tryz.prog Rows.typesToldRow.laid w) (fun _ _ _ hh h => h.of_heap hh) own started (by kernel_rfl) Tryz.func10
    (ChangeSpec.witness_shaped (enc := enc) (C := Tryz.checked) (os := os) (X := fun w _ => laidMetH Tryz.prog Rows.typesToldRow.laid w) false (World.laidAll Tryz.prog os Rows.typesToldRow.laid) #[.slice none 0 0, .int .i64 0, .int .i64 0, .slice none 0 0] 8 (World.laidAll_os _ _ _)
      (World.shaped_of_ZipB (by kernel_rfl) (by kernel_rfl)) (by kernel_rfl) (by kernel_rfl) (by kernel_rfl)
      (by rw [MakeChecks.laidMetH_plain _ _ _ (by kernel_rfl)]; exact laidMet_laidAll _ (by kernel_rfl) (by kernel_rfl))) ?_
  intro W base args ds gs before hval0 hW hL hsh
  have hval : ∀ (j : Nat) t v, Tryz.f10.params[j]? = some t → args[j]? = some v → Value.okWide Tryz.prog W .any base t v := hval0
  have hW' := hW
  obtain ⟨p, q, hA0, hV, rfl, _, _⟩ := hW
  have hA : DataW.TrodAll enc Tryz.prog W 0 (fun _ => true) true Tryz.f10.params.toList args.toList ds p := hA0
  rw [Tryz.params10] at hA hval
  obtain ⟨v0, v1, v2, v3, d0, d1, d2, d3, p0, p1, p2, p3, rfl, rfl, rfl, h0, h1, h2, h3⟩ := trodAll_four hA
  obtain ⟨rfl, rfl⟩ := trodVars_none hV
  obtain ⟨a0, l0, k0, rfl⟩ := okWide_slice Tryz.underlying23 (hval 0 23 v0 rfl rfl)
  obtain ⟨x1, rfl, rfl, rfl, w1⟩ := open_int Tryz.underlying3 (hval 1 3 v1 rfl rfl) h1
  obtain ⟨x2, rfl, rfl, rfl, w2⟩ := open_int Tryz.underlying3 (hval 2 3 v2 rfl rfl) h2
  obtain ⟨a3, l3, k3, rfl⟩ := okWide_slice Tryz.underlying37 (hval 3 37 v3 rfl rfl)
  simp only [List.append_nil] at hW'
  have hlt0 : ∀ x ∈ p0, x.block < W.heap.size := fun x hx => hW'.lt x (by simp [hx])
  have hlt3 : ∀ x ∈ p3, x.block < W.heap.size := fun x hx => hW'.lt x (by simp [hx])
  rw [MakeChecks.laidMetH_plain _ _ _ (by kernel_rfl)] at hL
  have hP := p10_of hL (by simp [Rows.typesToldRow])
  obtain ⟨G0, hG0, hq0⟩ := graph_arg h0
  obtain ⟨L3, hL3⟩ := ints_arg h3
  refine (told_law _ _ G0 x1 x2 L3 W hG0 hq0 hL3 hP).mono fun e W' ⟨he, hb⟩ => ?_
  subst he
  exact ⟨_, rfl, _, _, _, [], p0 ++ p3, [], hW', trodAll_mk1 (shut_bool Tryz.underlying4 _), by
    have := trodAll_mk4 (graph_again h0 hb hlt0) (shut_int Tryz.underlying3 w1) (shut_int Tryz.underlying3 w2) (ints_again h3 hb hlt3)
    (try simp only [List.nil_append] at this)
    (try simp only [List.append_nil] at this)
    exact this, rfl, hb.frame _, fun h => by cases h⟩
end Go.Proofs.YteaokkaidcbdlaaGreatDoor

