/- Part 30 of 53: the texts Ft, Ky, one behind the other. -/
import Derived.Test.YteaokkaidcbdlaaGreatDoorJ28
import Derived.Tactics
import Derived.Tactics2
import Derived.WalkKit
import Derived.LoopTactic
import Derived.Outline
import Derived.Lib.Hide
import Derived.Handy
import Derived.KernelRfl
import Derived.Deep.LoopGhost
import Derived.CallsIn
import Derived.Deep.QuietTactic
import Derived.BigQuiet
import Derived.Deep.Draws
import Derived.WalkSpells
import Derived.Lib.Walk
import Derived.Lib.Strings
import Derived.Maps.OwnOps
import Derived.Maps.OwnSet
import Derived.Deep.RegionWith
import Derived.StillTailTactics
import Derived.WalkMore
import Derived.RangeFuncNested
import Derived.RangeFuncBound
import Derived.RangeFuncCalls
import Derived.RangeFuncLeaves
import Derived.RangeFuncBox
import Derived.Shelf.Abstract
import Derived.OwnWalkIn
import Derived.TacticsInMore
import Derived.LoopNIn
import Derived.LoopIn
import Derived.RecoverIn
import Derived.Maps.AppendAt
import Derived.RegionTactic
import Derived.ChangeAlike
import Derived.OwnWalk
import Derived.Deep.AppendLies
import Derived.Deep.DeepCutAuto
import Derived.Deep.RegionLaw
import Derived.Deep.RegionHeld3
import Derived.Laws.EntriesVeiled
import Derived.Test.YteaokkaidcbdlaaGreatDoorJ27
namespace Go.Proofs.YteaokkaidcbdlaaGreatDoor
open Go Go.RowKit Go.Shelf
theorem idxB_iff {n : Nat} {i : Int} : idxB n i = true ↔ 0 ≤ i ∧ i < n := by unfold idxB; simp
structure RefsIn (n : Nat) (t : TyD) : Prop where
  sup : supB t.kind = true → 0 ≤ t.super ∧ t.super < n
  parts : ∀ p ∈ t.parts, 0 ≤ p.type ∧ p.type < n
  meths : ∀ m ∈ t.meths, sigB n m = true
theorem parts_nil {t : TyD} (h : t.parts.length = 0) : t.parts = [] := List.eq_nil_of_length_eq_zero h
theorem meths_nil {t : TyD} (h : t.meths.length = 0) : t.meths = [] := List.eq_nil_of_length_eq_zero h
theorem bareB_zero {t : TyD} {n : Nat} (h : bareB t n = true) : n = 0 := by
  unfold bareB at h
  rw [Bool.and_eq_true, decide_eq_true_eq] at h
  exact h.2
theorem fieldsB_parts {n : Nat} {t : TyD} (h : fieldsB n t = true) : ∀ p ∈ t.parts, 0 ≤ p.type ∧ p.type < n := by
  unfold fieldsB at h
  rw [Bool.and_eq_true, Bool.and_eq_true, List.all_eq_true] at h
  exact fun p hp => idxB_iff.1 (h.2.2 p hp)
theorem partB_parts {n : Nat} {t : TyD} (h : partB n t = true) : ∀ p ∈ t.parts, 0 ≤ p.type ∧ p.type < n := by
  unfold partB at h
  split at h
  · rename_i q hq
    rw [Bool.and_eq_true] at h
    intro p hp
    rw [hq, List.mem_singleton] at hp
    subst hp
    exact idxB_iff.1 h.2
  · cases h
theorem methsB_meths {n : Nat} {t : TyD} (h : methsB n t = true) : ∀ m ∈ t.meths, sigB n m = true := by
  unfold methsB at h
  rw [Bool.and_eq_true, List.all_eq_true] at h
  intro m hm
  have := h.2 m hm
  unfold methB at this
  rw [Bool.and_eq_true] at this
  exact this.1
theorem tyB_refs {G : List TyD} {t : TyD} (h : tyB G t = true) : RefsIn G.length t := by
  unfold tyB at h
  have hsup : t.kind ≠ 12 → t.kind ≠ 13 → supB t.kind = true → 0 ≤ t.super ∧ t.super < G.length := fun h1 h2 h3 => by
    unfold supB at h3; simp at h3; omega
  have none' : t.parts.length + t.meths.length + t.overs.length = 0 → (∀ p ∈ t.parts, 0 ≤ p.type ∧ p.type < G.length) ∧ (∀ m ∈ t.meths, sigB G.length m = true) := fun h0 => by
    rw [parts_nil (by omega), meths_nil (by omega)]
    exact ⟨fun p hp => by simp at hp, fun p hp => by simp at hp⟩
  have nom : 0 + t.meths.length + t.overs.length = 0 → (∀ m ∈ t.meths, sigB G.length m = true) := fun h0 => by
    rw [meths_nil (by omega)]
    exact fun p hp => by simp at hp
  split at h
  case h_8 hk =>
    rw [Bool.and_eq_true] at h
    have := none' (bareB_zero h.2)
    exact ⟨hsup (by omega) (by omega), this.1, this.2⟩
  case h_9 hk =>
    rw [Bool.and_eq_true, Bool.and_eq_true] at h
    exact ⟨hsup (by omega) (by omega), partB_parts h.1.2, nom (bareB_zero h.2)⟩
  case h_10 hk =>
    rw [Bool.and_eq_true, Bool.and_eq_true] at h
    exact ⟨hsup (by omega) (by omega), partB_parts h.1.2, nom (bareB_zero h.2)⟩
  case h_11 hk =>
    rw [Bool.and_eq_true, Bool.and_eq_true] at h
    exact ⟨hsup (by omega) (by omega), fieldsB_parts h.1.2, nom (bareB_zero h.2)⟩
  case h_12 hk =>
    simp only [Bool.and_eq_true] at h
    have hs := h.1.1.1.1.2
    unfold superB at hs
    rw [Bool.and_eq_true] at hs
    exact ⟨fun _ => idxB_iff.1 hs.1, fieldsB_parts h.1.1.1.2, methsB_meths h.1.1.2⟩
  case h_13 hk =>
    simp only [Bool.and_eq_true] at h
    have hs := h.1.2
    unfold superB at hs
    rw [Bool.and_eq_true] at hs
    have := none' (bareB_zero h.2)
    exact ⟨fun _ => idxB_iff.1 hs.1, this.1, this.2⟩
  case h_14 => cases h
  all_goals
    have := none' (bareB_zero h)
    exact ⟨hsup (by omega) (by omega), this.1, this.2⟩
theorem sigRefs_in {n : Nat} {m : MethD} (h : sigB n m = true) : (∀ x ∈ sigRefs m, 0 ≤ x ∧ x < n) ∧ (sigRefs m).length ≤ 7 := by
  unfold sigB at h
  simp only [Bool.and_eq_true, decide_eq_true_eq, Bool.or_eq_true, List.all_eq_true] at h
  obtain ⟨⟨h1, _⟩, h2, h3, _⟩ := h
  unfold sigRefs
  constructor
  · intro x hx
    rw [List.mem_append] at hx
    rcases hx with hx | hx
    · exact idxB_iff.1 (h2 x hx)
    · split at hx
      · simp at hx
      · rw [List.mem_singleton] at hx
        subst hx
        rcases h3 with h3 | h3
        · contradiction
        · exact idxB_iff.1 h3
  · rw [List.length_append]
    split <;> simp <;> omega
theorem flat_len {l : List MethD} {n : Nat} (h : ∀ m ∈ l, sigB n m = true) : (l.flatMap sigRefs).length ≤ 7 * l.length := by
  induction l with
  | nil => simp
  | cons m l ih =>
    rw [List.flatMap_cons, List.length_append, List.length_cons]
    have h1 := (sigRefs_in (h m (by simp))).2
    have h2 := ih (fun m' hm => h m' (by simp [hm]))
    omega
theorem refs_in {n : Nat} {t : TyD} (h : RefsIn n t) (hp : t.parts.length ≤ 10) (hm : t.meths.length ≤ 10) : (∀ x ∈ refsOf t, 0 ≤ x ∧ x < n) ∧ (refsOf t).length ≤ 100000 := by
  constructor
  · intro x hx
    unfold refsOf at hx
    rw [List.mem_append, List.mem_append] at hx
    rcases hx with hx | hx | hx
    · split at hx
      · rename_i hs
        rw [List.mem_singleton] at hx
        subst hx
        exact h.sup hs
      · simp at hx
    · obtain ⟨p, hp', rfl⟩ := List.mem_map.1 hx
      exact h.parts p hp'
    · obtain ⟨m, hm', hx⟩ := List.mem_flatMap.1 hx
      exact (sigRefs_in (h.meths m hm')).1 x hx
  · unfold refsOf
    have := flat_len h.meths
    rw [List.length_append, List.length_append, List.length_map]
    generalize (t.meths.flatMap sigRefs).length = q at this ⊢
    split <;> simp <;> omega
theorem check_fit {G : List TyD} (hz : GrZ G) (h : (checkR G).2 = 0) : Fit G := by
  unfold checkR at h
  split at h
  · simp at h
  · rename_i h4
    split at h
    · simp at h
    · rename_i hn
      have hall := firstNo_all (p := tyB G) (l := G) (by
        rcases firstNo_ge (tyB G) G with h1 | h1
        · exact h1
        · exact absurd h1 hn)
      refine ⟨by omega, fun t ht => ?_, fun t ht => ?_⟩
      · exact (refs_in (tyB_refs (hall t ht)) (hz.tys t ht).2.1 (hz.tys t ht).2.2.1).2
      · exact (refs_in (tyB_refs (hall t ht)) (hz.tys t ht).2.1 (hz.tys t ht).2.2.1).1
theorem equal_all (gv : Value) (G : List TyD) (i j : Int) (W : World) (hG0 : GrAt W gv G) (hz : GrZ G) :
    Calls Tryz.prog 23 #[gv, .int .i64 i, .int .i64 j] W fun e w' => e = .returned (.tuple #[.bool (equalL G i j).1, .int .i64 (equalL G i j).2]) ∧ Below W.heap.size W w' :=
  equal_any gv G i j W hG0 hz (fun h => check_fit hz (by
    unfold checkedR at h
    split at h
    · rename_i hne; exact absurd h hne
    · rename_i hne; simpa using hne))
end Go.Proofs.YteaokkaidcbdlaaGreatDoor

namespace Go.Proofs.YteaokkaidcbdlaaGreatDoor
open Go Go.RowKit Go.Shelf
theorem eqF_key {α κ : Type} {f : α → α → Bool} {k : α → κ} (h : ∀ x y, f x y = true ↔ k x = k y) : ∀ l m : List α, eqF f l m = true ↔ l.map k = m.map k
  | [], [] => by simp [eqF]
  | [], y :: m => by simp [eqF]
  | x :: l, [] => by simp [eqF]
  | x :: l, y :: m => by
    have ih := eqF_key h l m
    unfold eqF at ih ⊢
    simp only [List.zip_cons_cons, List.all_cons, List.length_cons, Bool.and_eq_true, decide_eq_true_eq, List.map_cons, List.cons.injEq] at ih ⊢
    rw [← ih, ← h]
    constructor
    · rintro ⟨a, b, c⟩; exact ⟨b, by omega, c⟩
    · rintro ⟨a, b, c⟩; exact ⟨by omega, a, c⟩
def noneK (i : Int) : Bool := i == -1
def partK (p : PartD) : List UInt8 × Bool := (p.name.toList, noneK p.type)
def methK (m : MethD) : List UInt8 × List UInt8 × List Bool × Bool × List (List UInt8) := (m.name.toList, m.proc.toList, m.args.map noneK, noneK m.result, m.raises.map (·.toList))
def overK (p : OverD) : List UInt8 × List UInt8 := (p.name.toList, p.proc.toList)
def agK (t : TyD) : (Nat × Int × Int × Bool × List UInt8 × List UInt8) × Bool × List (List UInt8 × Bool) × List (List UInt8 × List UInt8 × List Bool × Bool × List (List UInt8)) × List (List UInt8 × List UInt8) :=
  ((t.kind, t.low, t.high, t.branded, t.brand.toList, t.opq.toList), noneK t.super, t.parts.map partK, t.meths.map methK, t.overs.map overK)
theorem sameS_key (a b : ByteArray) : sameS a b = true ↔ a.toList = b.toList := by unfold sameS; exact beq_iff_eq
theorem fitB_key (a b : Int) : fitB a b = true ↔ noneK a = noneK b := by unfold fitB noneK; exact beq_iff_eq
theorem partFit_key (p q : PartD) : partFitB p q = true ↔ partK p = partK q := by
  unfold partFitB partK; rw [Bool.and_eq_true, sameS_key, fitB_key, Prod.mk.injEq]
theorem overFit_key (p q : OverD) : overFitB p q = true ↔ overK p = overK q := by
  unfold overFitB overK; rw [Bool.and_eq_true, sameS_key, sameS_key, Prod.mk.injEq]
theorem methFit_key (p q : MethD) : methFitB p q = true ↔ methK p = methK q := by
  unfold methFitB methK
  rw [Bool.and_eq_true, Bool.and_eq_true, Bool.and_eq_true, Bool.and_eq_true, sameS_key, sameS_key, fitB_key, eqF_key fitB_key, eqF_key sameS_key, Prod.mk.injEq, Prod.mk.injEq, Prod.mk.injEq, Prod.mk.injEq]
theorem agree_key (a b : TyD) : agreeB a b = true ↔ agK a = agK b := by
  unfold agreeB agK plainB
  simp only [Bool.and_eq_true, sameS_key, fitB_key, eqF_key partFit_key, eqF_key overFit_key, eqF_key methFit_key, Prod.mk.injEq, beq_iff_eq]
  constructor
  · rintro ⟨⟨h1, h2⟩, h3⟩; exact ⟨⟨by omega, h2⟩, h3⟩
  · rintro ⟨⟨h1, h2⟩, h3⟩; exact ⟨⟨by omega, h2⟩, h3⟩
theorem sameB_key (xs : List Int) (x y : Int) : sameB xs x y = true ↔ xs.getD x.toNat 0 = xs.getD y.toNat 0 := by unfold sameB; exact decide_eq_true_iff
def finK (xs : List Int) (B : List (List Int)) (i : Nat) : Int × List Int := (xs.getD i 0, (B.getD i []).map fun x => xs.getD x.toNat 0)
theorem finer_key (xs : List Int) (B : List (List Int)) (i j : Nat) : finerB xs B i j = true ↔ finK xs B i = finK xs B j := by
  unfold finerB finK
  rw [Bool.and_eq_true, sameB_key, eqF_key (sameB_key xs), Prod.mk.injEq]
  simp
theorem leasts_first {κ : Type} {same : Nat → Nat → Bool} {k : Nat → κ} (h : ∀ i j, same i j = true ↔ k i = k j) : ∀ n, (∀ i, i < n → (leastsS same n).2.getD i 0 ∈ (leastsS same n).1 ∧ k ((leastsS same n).2.getD i 0) = k i) ∧
    ∀ f ∈ (leastsS same n).1, ∀ g ∈ (leastsS same n).1, k f = k g → f = g
  | 0 => ⟨fun i hi => by omega, fun f hf => by simp [leastsS] at hf⟩
  | n + 1 => by
    obtain ⟨h1, h2⟩ := leasts_first h n
    have hl := (leasts_spec same n).1
    rw [leastsS_succ]
    generalize leastsS same n = r at h1 h2 hl ⊢
    obtain ⟨F, N⟩ := r
    simp only at h1 h2 hl
    unfold stepL
    simp only
    cases hf : F.findIdx? (fun f => same f n) with
    | none =>
      simp only
      rw [List.findIdx?_eq_none_iff] at hf
      have hno : ∀ f ∈ F, k f ≠ k n := fun f hm he => by
        have := hf f hm
        rw [(h f n).2 he] at this; cases this
      refine ⟨fun i hi => ?_, fun f hf' g hg he => ?_⟩
      · by_cases hin : i < n
        · rw [getD_snoc_lt (by omega)]
          exact ⟨List.mem_append_left _ (h1 i hin).1, (h1 i hin).2⟩
        · obtain rfl : i = n := by omega
          rw [getD_snoc_len hl]
          exact ⟨by simp, rfl⟩
      · rw [List.mem_append, List.mem_singleton] at hf' hg
        rcases hf' with hf' | rfl <;> rcases hg with hg | rfl
        · exact h2 f hf' g hg he
        · exact absurd he (hno f hf')
        · exact absurd he.symm (hno g hg)
        · rfl
    | some j =>
      simp only
      rw [List.findIdx?_eq_some_iff_getElem] at hf
      obtain ⟨hj, hs, -⟩ := hf
      have hg : F.getD j 0 = F[j] := by simp [List.getD_eq_getElem?_getD, List.getElem?_eq_getElem hj]
      rw [hg]
      refine ⟨fun i hi => ?_, h2⟩
      by_cases hin : i < n
      · rw [getD_snoc_lt (by omega)]; exact h1 i hin
      · obtain rfl : i = n := by omega
        rw [getD_snoc_len hl]
        exact ⟨List.getElem_mem hj, (h _ _).1 hs⟩
theorem leasts_iff {κ : Type} {same : Nat → Nat → Bool} {k : Nat → κ} (h : ∀ i j, same i j = true ↔ k i = k j) {n i j : Nat} (hi : i < n) (hj : j < n) : (leastsS same n).2.getD i 0 = (leastsS same n).2.getD j 0 ↔ k i = k j := by
  obtain ⟨h1, h2⟩ := leasts_first h n
  constructor
  · intro he; rw [← (h1 i hi).2, he, (h1 j hj).2]
  · intro he; exact h2 _ (h1 i hi).1 _ (h1 j hj).1 (by rw [(h1 i hi).2, (h1 j hj).2, he])
theorem getD_ofNat (c : List Nat) (i : Nat) : (c.map Int.ofNat).getD i 0 = ((c.getD i 0 : Nat) : Int) := by
  rw [List.getD_eq_getElem?_getD, List.getElem?_map, List.getD_eq_getElem?_getD]
  cases c[i]? <;> rfl
def nextK (B : List (List Int)) (c : List Nat) (i : Nat) : Nat × List Nat := (c.getD i 0, (B.getD i []).map fun x => c.getD x.toNat 0)
theorem finK_next (B : List (List Int)) (c : List Nat) (i j : Nat) : finK (c.map Int.ofNat) B i = finK (c.map Int.ofNat) B j ↔ nextK B c i = nextK B c j := by
  unfold finK nextK
  simp only [Prod.mk.injEq, getD_ofNat]
  have e : ∀ l : List Int, (l.map fun x => ((c.getD x.toNat 0 : Nat) : Int)) = (l.map fun x => c.getD x.toNat 0).map Int.ofNat := fun l => by rw [List.map_map]; rfl
  rw [e, e, List.map_inj_right (fun x y h => by injection h)]
  constructor
  · rintro ⟨a, b⟩; exact ⟨by omega, b⟩
  · rintro ⟨a, b⟩; exact ⟨by omega, b⟩
theorem finerL_iff (B : List (List Int)) (c : List Nat) {n i j : Nat} (hi : i < n) (hj : j < n) : (finerL B n c).getD i 0 = (finerL B n c).getD j 0 ↔ nextK B c i = nextK B c j := by
  unfold finerL
  rw [leasts_iff (finer_key _ _) hi hj, finK_next]
theorem settle_ind {B : List (List Int)} {n : Nat} {P : List Nat → Prop} (hstep : ∀ c, P c → P (finerL B n c)) : ∀ (m : Nat) (c : List Nat), n - ownN c n < m → c.length = n → (∀ i, i < n → c.getD i 0 ≤ i) → P c →
    P (settle B n m c) ∧ finerL B n (settle B n m c) = settle B n m c := by
  intro m
  induction m with
  | zero => intro c h; omega
  | succ m ih =>
    intro c hm hc hle hP
    by_cases he : c = finerL B n c
    · have : settle B n (m + 1) c = c := by unfold settle; rw [if_pos he]
      rw [this]; exact ⟨hP, he.symm⟩
    · obtain ⟨m', e, hs, h1, h2, h3⟩ := settle_step hm hc hle he
      obtain rfl : m = m' := by omega
      rw [hs]
      exact ih _ h1 h2 h3 (hstep c hP)
def cls0 (G : List TyD) : List Nat := (leastsS (fun f i => agreeB (G.getD f default) (G.getD i default)) G.length).2
theorem classes_ind {G : List TyD} {P : List Nat → Prop} (h0 : P (cls0 G)) (hstep : ∀ c, P c → P (finerL (G.map refsOf) G.length c)) : P (classesL G) ∧ finerL (G.map refsOf) G.length (classesL G) = classesL G := by
  have hs := leasts_spec (fun f i => agreeB (G.getD f default) (G.getD i default)) G.length
  exact settle_ind hstep (G.length + 1) (cls0 G) (by have := ownN_le (cls0 G) G.length; omega) hs.1 (fun i hi => (hs.2.1 i hi).1) h0
theorem cls0_iff {G : List TyD} {i j : Nat} (hi : i < G.length) (hj : j < G.length) : (cls0 G).getD i 0 = (cls0 G).getD j 0 ↔ agK (G.getD i default) = agK (G.getD j default) :=
  leasts_iff (k := fun i => agK (G.getD i default)) (fun _ _ => agree_key _ _) hi hj
theorem refs_at (G : List TyD) (i : Nat) (hi : i < G.length) : (G.map refsOf).getD i [] = refsOf (G.getD i default) := by
  rw [List.getD_eq_getElem?_getD, List.getElem?_map, List.getD_eq_getElem?_getD, List.getElem?_eq_getElem hi]; rfl
theorem class_agree {G : List TyD} {i j : Nat} (hi : i < G.length) (hj : j < G.length) (h : (classesL G).getD i 0 = (classesL G).getD j 0) :
    agK (G.getD i default) = agK (G.getD j default) ∧ (refsOf (G.getD i default)).map (fun x => (classesL G).getD x.toNat 0) = (refsOf (G.getD j default)).map fun x => (classesL G).getD x.toNat 0 := by
  obtain ⟨h1, h2⟩ := classes_ind (G := G) (P := fun c => ∀ i j, i < G.length → j < G.length → c.getD i 0 = c.getD j 0 → agK (G.getD i default) = agK (G.getD j default)) (fun _ _ hi hj h => (cls0_iff hi hj).1 h) (fun c hc i j hi hj h => by
    rw [finerL_iff _ _ hi hj] at h
    exact hc i j hi hj (congrArg Prod.fst h))
  refine ⟨h1 i j hi hj h, ?_⟩
  rw [← h2, finerL_iff _ _ hi hj] at h
  have := congrArg Prod.snd h
  unfold nextK at this
  simp only [refs_at G i hi, refs_at G j hj] at this
  exact this
theorem class_closed {G : List TyD} {R : Nat → Nat → Prop} (hR : ∀ i j, R i j → i < G.length ∧ j < G.length ∧ agK (G.getD i default) = agK (G.getD j default) ∧ (refsOf (G.getD i default)).length = (refsOf (G.getD j default)).length ∧
      ∀ k (h : k < (refsOf (G.getD i default)).length) (h' : k < (refsOf (G.getD j default)).length), R ((refsOf (G.getD i default))[k]).toNat ((refsOf (G.getD j default))[k]).toNat) {i j : Nat} (h : R i j) :
    (classesL G).getD i 0 = (classesL G).getD j 0 := by
  refine (classes_ind (G := G) (P := fun c => ∀ i j, R i j → c.getD i 0 = c.getD j 0) ?_ ?_).1 i j h
  · intro i j h
    obtain ⟨hi, hj, ha, -⟩ := hR i j h
    exact (cls0_iff hi hj).2 ha
  · intro c hc i j h
    obtain ⟨hi, hj, ha, hl, hk⟩ := hR i j h
    rw [finerL_iff _ _ hi hj]
    unfold nextK
    rw [hc i j h, refs_at G i hi, refs_at G j hj, Prod.mk.injEq]
    refine ⟨rfl, List.ext_getElem (by simpa using hl) fun k h1 h2 => ?_⟩
    rw [List.getElem_map, List.getElem_map]
    exact hc _ _ (hk k (by simpa using h1) (by simpa using h2))
theorem class_least (G : List TyD) : (∀ i, i < G.length → (classesL G).getD i 0 ≤ i ∧ (classesL G).getD ((classesL G).getD i 0) 0 = (classesL G).getD i 0) := by
  refine (classes_ind (G := G) (P := fun c => ∀ i, i < G.length → c.getD i 0 ≤ i ∧ c.getD (c.getD i 0) 0 = c.getD i 0) ?_ ?_).1
  · intro i hi
    have h := (leasts_spec (fun f i => agreeB (G.getD f default) (G.getD i default)) G.length).2.1 i hi
    exact ⟨h.1, h.2.2⟩
  · intro c _ i hi
    have h := (leasts_spec (finerB (c.map Int.ofNat) (G.map refsOf)) G.length).2.1 i hi
    exact ⟨h.1, h.2.2⟩
end Go.Proofs.YteaokkaidcbdlaaGreatDoor

