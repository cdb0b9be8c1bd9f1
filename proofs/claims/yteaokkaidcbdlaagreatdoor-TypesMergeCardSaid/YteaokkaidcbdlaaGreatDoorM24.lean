/- Part 24 of 53: the texts Ft, Ky, Zk, Op, Oe, one behind the other. -/
import Derived.Test.YteaokkaidcbdlaaGreatDoorM21
import Derived.Test.YteaokkaidcbdlaaGreatDoorM18
import Derived.Test.YteaokkaidcbdlaaGreatDoorM20
namespace Go.Proofs.YteaokkaidcbdlaaGreatDoor
open Go Go.RowKit Go.Shelf
theorem idxB_iff {n : Nat} {i : Int} : idxB n i = true ↔ 0 ≤ i ∧ i < n := by unfold idxB; simp
structure RefsIn (n : Nat) (t : TyD) : Prop where
 sup : supB t.kind = true → 0 ≤ t.super ∧ t.super < n
 parts : ∀ p ∈ t.parts, 0 ≤ p.type ∧ p.type < n
 meths : ∀ m ∈ t.meths, sigB n m = true
theorem parts_nil {t : TyD} (h : t.parts.length = 0) : t.parts = [] := List.eq_nil_of_length_eq_zero h
theorem meths_nil {t : TyD} (h : t.meths.length = 0) : t.meths = [] := List.eq_nil_of_length_eq_zero h
theorem bareB_zero {t : TyD} {n : Nat} (h : bareB t n = true) : n = 0 := by
 unfold bareB at h
 rw [Bool.and_eq_true, decide_eq_true_eq] at h
 exact h.2
theorem fieldsB_parts {n : Nat} {t : TyD} (h : fieldsB n t = true) : ∀ p ∈ t.parts, 0 ≤ p.type ∧ p.type < n := by
 unfold fieldsB at h
 rw [Bool.and_eq_true, Bool.and_eq_true, List.all_eq_true] at h
 exact fun p hp => idxB_iff.1 (h.2.2 p hp)
theorem partB_parts {n : Nat} {t : TyD} (h : partB n t = true) : ∀ p ∈ t.parts, 0 ≤ p.type ∧ p.type < n := by
 unfold partB at h
 split at h
 ·rename_i q hq
  rw [Bool.and_eq_true] at h
  intro p hp
  rw [hq, List.mem_singleton] at hp
  subst hp
  exact idxB_iff.1 h.2
 ·cases h
theorem methsB_meths {n : Nat} {t : TyD} (h : methsB n t = true) : ∀ m ∈ t.meths, sigB n m = true := by
 unfold methsB at h
 rw [Bool.and_eq_true, List.all_eq_true] at h
 intro m hm
 have := h.2 m hm
 unfold methB at this
 rw [Bool.and_eq_true] at this
 exact this.1
theorem tyB_refs {G : List TyD} {t : TyD} (h : tyB G t = true) : RefsIn G.length t := by
 unfold tyB at h
 have hsup : t.kind ≠ 12 → t.kind ≠ 13 → supB t.kind = true → 0 ≤ t.super ∧ t.super < G.length := fun h1 h2 h3 => by
  unfold supB at h3; simp at h3; omega
 have none' : t.parts.length + t.meths.length + t.overs.length = 0 → (∀ p ∈ t.parts, 0 ≤ p.type ∧ p.type < G.length) ∧ (∀ m ∈ t.meths, sigB G.length m = true) := fun h0 => by
  rw [parts_nil (by omega), meths_nil (by omega)]
  exact ⟨fun p hp => by simp at hp, fun p hp => by simp at hp⟩
 have nom : 0 + t.meths.length + t.overs.length = 0 → (∀ m ∈ t.meths, sigB G.length m = true) := fun h0 => by
  rw [meths_nil (by omega)]
  exact fun p hp => by simp at hp
 split at h
 case h_8 hk =>
  rw [Bool.and_eq_true] at h
  have := none' (bareB_zero h.2)
  exact ⟨hsup (by omega) (by omega), this.1, this.2⟩
 case h_9 hk =>
  rw [Bool.and_eq_true, Bool.and_eq_true] at h
  exact ⟨hsup (by omega) (by omega), partB_parts h.1.2, nom (bareB_zero h.2)⟩
 case h_10 hk =>
  rw [Bool.and_eq_true, Bool.and_eq_true] at h
  exact ⟨hsup (by omega) (by omega), partB_parts h.1.2, nom (bareB_zero h.2)⟩
 case h_11 hk =>
  rw [Bool.and_eq_true, Bool.and_eq_true] at h
  exact ⟨hsup (by omega) (by omega), fieldsB_parts h.1.2, nom (bareB_zero h.2)⟩
 case h_12 hk =>
  simp only [Bool.and_eq_true] at h
  have hs := h.1.1.1.1.2
  unfold superB at hs
  rw [Bool.and_eq_true] at hs
  exact ⟨fun _ => idxB_iff.1 hs.1, fieldsB_parts h.1.1.1.2, methsB_meths h.1.1.2⟩
 case h_13 hk =>
  simp only [Bool.and_eq_true] at h
  have hs := h.1.2
  unfold superB at hs
  rw [Bool.and_eq_true] at hs
  have := none' (bareB_zero h.2)
  exact ⟨fun _ => idxB_iff.1 hs.1, this.1, this.2⟩
 case h_14 => cases h
 all_goals
  have := none' (bareB_zero h)
  exact ⟨hsup (by omega) (by omega), this.1, this.2⟩
theorem sigRefs_in {n : Nat} {m : MethD} (h : sigB n m = true) : (∀ x ∈ sigRefs m, 0 ≤ x ∧ x < n) ∧ (sigRefs m).length ≤ 7 := by
 unfold sigB at h
 simp only [Bool.and_eq_true, decide_eq_true_eq, Bool.or_eq_true, List.all_eq_true] at h
 obtain ⟨⟨h1, _⟩, h2, h3, _⟩ := h
 unfold sigRefs
 constructor
 ·intro x hx
  rw [List.mem_append] at hx
  rcases hx with hx | hx
  ·exact idxB_iff.1 (h2 x hx)
  ·split at hx
   ·simp at hx
   ·rw [List.mem_singleton] at hx
    subst hx
    rcases h3 with h3 | h3
    ·contradiction
    ·exact idxB_iff.1 h3
 ·rw [List.length_append]
  split <;> simp <;> omega
theorem flat_len {l : List MethD} {n : Nat} (h : ∀ m ∈ l, sigB n m = true) : (l.flatMap sigRefs).length ≤ 7 * l.length := by
 induction l with
 | nil => simp
 | cons m l ih =>
   rw [List.flatMap_cons, List.length_append, List.length_cons]
   have h1 := (sigRefs_in (h m (by simp))).2
   have h2 := ih (fun m' hm => h m' (by simp [hm]))
   omega
theorem refs_in {n : Nat} {t : TyD} (h : RefsIn n t) (hp : t.parts.length ≤ 10) (hm : t.meths.length ≤ 10) : (∀ x ∈ refsOf t, 0 ≤ x ∧ x < n) ∧ (refsOf t).length ≤ 100000 := by
 constructor
 ·intro x hx
  unfold refsOf at hx
  rw [List.mem_append, List.mem_append] at hx
  rcases hx with hx | hx | hx
  ·split at hx
   ·rename_i hs
    rw [List.mem_singleton] at hx
    subst hx
    exact h.sup hs
   ·simp at hx
  ·obtain ⟨p, hp', rfl⟩ := List.mem_map.1 hx
   exact h.parts p hp'
  ·obtain ⟨m, hm', hx⟩ := List.mem_flatMap.1 hx
   exact (sigRefs_in (h.meths m hm')).1 x hx
 ·unfold refsOf
  have := flat_len h.meths
  rw [List.length_append, List.length_append, List.length_map]
  generalize (t.meths.flatMap sigRefs).length = q at this ⊢
  split <;> simp <;> omega
theorem check_fit {G : List TyD} (hz : GrZ G) (h : (checkR G).2 = 0) : Fit G := by
 unfold checkR at h
 split at h
 ·simp at h
 ·rename_i h4
  split at h
  ·simp at h
  ·rename_i hn
   have hall := firstNo_all (p := tyB G) (l := G) (by
    rcases firstNo_ge (tyB G) G with h1 | h1
    ·exact h1
    ·exact absurd h1 hn)
   refine ⟨by omega, fun t ht => ?_, fun t ht => ?_⟩
   ·exact (refs_in (tyB_refs (hall t ht)) (hz.tys t ht).2.1 (hz.tys t ht).2.2.1).2
   ·exact (refs_in (tyB_refs (hall t ht)) (hz.tys t ht).2.1 (hz.tys t ht).2.2.1).1
theorem equal_all (gv : Value) (G : List TyD) (i j : Int) (W : World) (hG0 : GrAt W gv G) (hz : GrZ G) :
    Calls Tryz.prog 23 #[gv, .int .i64 i, .int .i64 j] W fun e w' => e = .returned (.tuple #[.bool (equalL G i j).1, .int .i64 (equalL G i j).2]) ∧ Below W.heap.size W w' :=
  equal_any gv G i j W hG0 hz (fun h => check_fit hz (by
   unfold checkedR at h
   split at h
   ·rename_i hne; exact absurd h hne
   ·rename_i hne; simpa using hne))
end Go.Proofs.YteaokkaidcbdlaaGreatDoor

namespace Go.Proofs.YteaokkaidcbdlaaGreatDoor
open Go Go.RowKit Go.Shelf
theorem eqF_key {α κ : Type} {f : α → α → Bool} {k : α → κ} (h : ∀ x y, f x y = true ↔ k x = k y) : ∀ l m : List α, eqF f l m = true ↔ l.map k = m.map k
 | [], [] => by simp [eqF]
 | [], y :: m => by simp [eqF]
 | x :: l, [] => by simp [eqF]
 | x :: l, y :: m => by
   have ih := eqF_key h l m
   unfold eqF at ih ⊢
   simp only [List.zip_cons_cons, List.all_cons, List.length_cons, Bool.and_eq_true, decide_eq_true_eq, List.map_cons, List.cons.injEq] at ih ⊢
   rw [← ih, ← h]
   constructor
   ·rintro ⟨a, b, c⟩; exact ⟨b, by omega, c⟩
   ·rintro ⟨a, b, c⟩; exact ⟨by omega, a, c⟩
def noneK (i : Int) : Bool := i == -1
def partK (p : PartD) : List UInt8 × Bool := (p.name.toList, noneK p.type)
def methK (m : MethD) : List UInt8 × List UInt8 × List Bool × Bool × List (List UInt8) := (m.name.toList, m.proc.toList, m.args.map noneK, noneK m.result, m.raises.map (·.toList))
def overK (p : OverD) : List UInt8 × List UInt8 := (p.name.toList, p.proc.toList)
def agK (t : TyD) : (Nat × Int × Int × Bool × List UInt8 × List UInt8) × Bool × List (List UInt8 × Bool) × List (List UInt8 × List UInt8 × List Bool × Bool × List (List UInt8)) × List (List UInt8 × List UInt8) :=
 ((t.kind, t.low, t.high, t.branded, t.brand.toList, t.opq.toList), noneK t.super, t.parts.map partK, t.meths.map methK, t.overs.map overK)
theorem sameS_key (a b : ByteArray) : sameS a b = true ↔ a.toList = b.toList := by unfold sameS; exact beq_iff_eq
theorem fitB_key (a b : Int) : fitB a b = true ↔ noneK a = noneK b := by unfold fitB noneK; exact beq_iff_eq
theorem partFit_key (p q : PartD) : partFitB p q = true ↔ partK p = partK q := by
 unfold partFitB partK; rw [Bool.and_eq_true, sameS_key, fitB_key, Prod.mk.injEq]
theorem overFit_key (p q : OverD) : overFitB p q = true ↔ overK p = overK q := by
 unfold overFitB overK; rw [Bool.and_eq_true, sameS_key, sameS_key, Prod.mk.injEq]
theorem methFit_key (p q : MethD) : methFitB p q = true ↔ methK p = methK q := by
 unfold methFitB methK
 rw [Bool.and_eq_true, Bool.and_eq_true, Bool.and_eq_true, Bool.and_eq_true, sameS_key, sameS_key, fitB_key, eqF_key fitB_key, eqF_key sameS_key, Prod.mk.injEq, Prod.mk.injEq, Prod.mk.injEq, Prod.mk.injEq]
theorem agree_key (a b : TyD) : agreeB a b = true ↔ agK a = agK b := by
 unfold agreeB agK plainB
 simp only [Bool.and_eq_true, sameS_key, fitB_key, eqF_key partFit_key, eqF_key overFit_key, eqF_key methFit_key, Prod.mk.injEq, beq_iff_eq]
 constructor
 ·rintro ⟨⟨h1, h2⟩, h3⟩; exact ⟨⟨by omega, h2⟩, h3⟩
 ·rintro ⟨⟨h1, h2⟩, h3⟩; exact ⟨⟨by omega, h2⟩, h3⟩
theorem sameB_key (xs : List Int) (x y : Int) : sameB xs x y = true ↔ xs.getD x.toNat 0 = xs.getD y.toNat 0 := by unfold sameB; exact decide_eq_true_iff
def finK (xs : List Int) (B : List (List Int)) (i : Nat) : Int × List Int := (xs.getD i 0, (B.getD i []).map fun x => xs.getD x.toNat 0)
theorem finer_key (xs : List Int) (B : List (List Int)) (i j : Nat) : finerB xs B i j = true ↔ finK xs B i = finK xs B j := by
 unfold finerB finK
 rw [Bool.and_eq_true, sameB_key, eqF_key (sameB_key xs), Prod.mk.injEq]
 simp
theorem leasts_first {κ : Type} {same : Nat → Nat → Bool} {k : Nat → κ} (h : ∀ i j, same i j = true ↔ k i = k j) : ∀ n, (∀ i, i < n → (leastsS same n).2.getD i 0 ∈ (leastsS same n).1 ∧ k ((leastsS same n).2.getD i 0) = k i) ∧
    ∀ f ∈ (leastsS same n).1, ∀ g ∈ (leastsS same n).1, k f = k g → f = g
  | 0 => ⟨fun i hi => by omega, fun f hf => by simp [leastsS] at hf⟩
  | n + 1 => by
    obtain ⟨h1, h2⟩ := leasts_first h n
    have hl := (leasts_spec same n).1
    rw [leastsS_succ]
    generalize leastsS same n = r at h1 h2 hl ⊢
    obtain ⟨F, N⟩ := r
    simp only at h1 h2 hl
    unfold stepL
    simp only
    cases hf : F.findIdx? (fun f => same f n) with
    | none =>
      simp only
      rw [List.findIdx?_eq_none_iff] at hf
      have hno : ∀ f ∈ F, k f ≠ k n := fun f hm he => by
       have := hf f hm
       rw [(h f n).2 he] at this; cases this
      refine ⟨fun i hi => ?_, fun f hf' g hg he => ?_⟩
      ·by_cases hin : i < n
       ·rw [getD_snoc_lt (by omega)]
        exact ⟨List.mem_append_left _ (h1 i hin).1, (h1 i hin).2⟩
       ·obtain rfl : i = n := by omega
        rw [getD_snoc_len hl]
        exact ⟨by simp, rfl⟩
      ·rw [List.mem_append, List.mem_singleton] at hf' hg
       rcases hf' with hf' | rfl <;> rcases hg with hg | rfl
       ·exact h2 f hf' g hg he
       ·exact absurd he (hno f hf')
       ·exact absurd he.symm (hno g hg)
       ·rfl
    | some j =>
      simp only
      rw [List.findIdx?_eq_some_iff_getElem] at hf
      obtain ⟨hj, hs, -⟩ := hf
      have hg : F.getD j 0 = F[j] := by simp [List.getD_eq_getElem?_getD, List.getElem?_eq_getElem hj]
      rw [hg]
      refine ⟨fun i hi => ?_, h2⟩
      by_cases hin : i < n
      ·rw [getD_snoc_lt (by omega)]; exact h1 i hin
      ·obtain rfl : i = n := by omega
       rw [getD_snoc_len hl]
       exact ⟨List.getElem_mem hj, (h _ _).1 hs⟩
theorem leasts_iff {κ : Type} {same : Nat → Nat → Bool} {k : Nat → κ} (h : ∀ i j, same i j = true ↔ k i = k j) {n i j : Nat} (hi : i < n) (hj : j < n) : (leastsS same n).2.getD i 0 = (leastsS same n).2.getD j 0 ↔ k i = k j := by
 obtain ⟨h1, h2⟩ := leasts_first h n
 constructor
 ·intro he; rw [← (h1 i hi).2, he, (h1 j hj).2]
 ·intro he; exact h2 _ (h1 i hi).1 _ (h1 j hj).1 (by rw [(h1 i hi).2, (h1 j hj).2, he])
theorem getD_ofNat (c : List Nat) (i : Nat) : (c.map Int.ofNat).getD i 0 = ((c.getD i 0 : Nat) : Int) := by
 rw [List.getD_eq_getElem?_getD, List.getElem?_map, List.getD_eq_getElem?_getD]
 cases c[i]? <;> rfl
def cls0 (G : List TyD) : List Nat := (leastsS (fun f i => agreeB (G.getD f default) (G.getD i default)) G.length).2
theorem cls0_iff {G : List TyD} {i j : Nat} (hi : i < G.length) (hj : j < G.length) : (cls0 G).getD i 0 = (cls0 G).getD j 0 ↔ agK (G.getD i default) = agK (G.getD j default) :=
 leasts_iff (k := fun i => agK (G.getD i default)) (fun _ _ => agree_key _ _) hi hj
theorem refs_at (G : List TyD) (i : Nat) (hi : i < G.length) : (G.map refsOf).getD i [] = refsOf (G.getD i default) := by
 rw [List.getD_eq_getElem?_getD, List.getElem?_map, List.getD_eq_getElem?_getD, List.getElem?_eq_getElem hi]; rfl
theorem leasts_least {κ : Type} {same : Nat → Nat → Bool} {k : Nat → κ} (h : ∀ i j, same i j = true ↔ k i = k j) {n i : Nat} (hi : i < n) :
    (leastsS same n).2.getD i 0 ≤ i ∧ k ((leastsS same n).2.getD i 0) = k i ∧ ∀ j, j < (leastsS same n).2.getD i 0 → k j ≠ k i := by
  have h1 := ((leasts_spec same n).2.1 i hi).1
  refine ⟨h1, ((leasts_first h n).1 i hi).2, fun j hj he => ?_⟩
  have hjn : j < n := by omega
  have h2 := ((leasts_spec same n).2.1 j hjn).1
  rw [(leasts_iff h hjn hi).2 he] at h2
  omega
def iterL (B : List (List Int)) (n : Nat) : Nat → List Nat → List Nat
 | 0, c => c
 | m + 1, c => iterL B n m (finerL B n c)
theorem iter_fix {B : List (List Int)} {n : Nat} {c : List Nat} (h : c = finerL B n c) : ∀ m, iterL B n m c = c
 | 0 => rfl
 | m + 1 => by unfold iterL; rw [← h]; exact iter_fix h m
theorem settle_iter (B : List (List Int)) (n : Nat) : ∀ m c, settle B n m c = iterL B n m c
 | 0, _ => rfl
 | m + 1, c => by
   unfold settle
   by_cases h : c = finerL B n c
   ·rw [if_pos h, iter_fix h]
   ·rw [if_neg h]; exact settle_iter B n m _
theorem iter_snoc (B : List (List Int)) (n : Nat) : ∀ m c, iterL B n (m + 1) c = finerL B n (iterL B n m c)
 | 0, _ => rfl
 | m + 1, c => iter_snoc B n m (finerL B n c)
theorem classes_iter (G : List TyD) : classesL G = iterL (G.map refsOf) G.length (G.length + 1) (cls0 G) := settle_iter _ _ _ _
end Go.Proofs.YteaokkaidcbdlaaGreatDoor

namespace Go.Proofs.YteaokkaidcbdlaaGreatDoor
open Go Go.RowKit Go.Shelf
def lsA (G : List TyD) (j i : Nat) : Bool := agreeB (G.getD j default) (G.getD i default)
def f0 (G : List TyD) (i : Nat) : Nat := (cls0 G).getD i 0
theorem f0_least {G : List TyD} {i : Nat} (hi : i < G.length) : f0 G i ≤ i ∧ lsA G (f0 G i) i = true ∧ ∀ j, j < f0 G i → lsA G j i = false := by
 obtain ⟨h1, h2, h3⟩ := leasts_least (k := fun i => agK (G.getD i default)) (same := fun f i => agreeB (G.getD f default) (G.getD i default)) (fun _ _ => agree_key _ _) hi
 refine ⟨h1, (agree_key _ _).2 h2, fun j hj => ?_⟩
 rw [Bool.eq_false_iff]
 intro e
 exact h3 j hj ((agree_key _ _).1 e)
theorem f0_same {G : List TyD} {i j : Nat} (hi : i < G.length) (hj : j < G.length) (h : lsA G j i = true) : f0 G j = f0 G i := (cls0_iff hj hi).2 ((agree_key _ _).1 h)
theorem f0_end {G : List TyD} {i : Nat} (hi : i < G.length) (h : ∀ j, j < i → lsA G j i = false) : f0 G i = i := by
 obtain ⟨h1, h2, -⟩ := f0_least hi
 rcases Nat.lt_or_ge (f0 G i) i with hlt | hge
 ·rw [h _ hlt] at h2; cases h2
 ·omega
def fN (G : List TyD) (c : List Nat) (i : Nat) : Nat := (finerL (G.map refsOf) G.length c).getD i 0
def lsN (G : List TyD) (c : List Nat) (j i : Nat) : Bool := finerB (c.map Int.ofNat) (G.map refsOf) j i
theorem fN_least {G : List TyD} {c : List Nat} {i : Nat} (hi : i < G.length) : fN G c i ≤ i ∧ lsN G c (fN G c i) i = true ∧ ∀ j, j < fN G c i → lsN G c j i = false := by
 obtain ⟨h1, h2, h3⟩ := leasts_least (same := finerB (c.map Int.ofNat) (G.map refsOf)) (finer_key _ _) hi
 refine ⟨h1, (finer_key _ _ _ _).2 h2, fun j hj => ?_⟩
 rw [Bool.eq_false_iff]
 intro e
 exact h3 j hj ((finer_key _ _ _ _).1 e)
theorem fN_own {G : List TyD} {c : List Nat} {i k : Nat} (hi : i < G.length) (hk : k < i) (hno : ∀ j, j < k → lsN G c j i = false) (h : lsN G c k i = true) : fN G c k = k ∧ fN G c i = k := by
 have hkn : k < G.length := by omega
 obtain ⟨a1, a2, a3⟩ := fN_least (c := c) hi
 have e1 : fN G c i = k := by
  rcases Nat.lt_trichotomy (fN G c i) k with hlt | he | hgt
  ·rw [hno _ hlt] at a2; cases a2
  ·exact he
  ·rw [a3 _ hgt] at h; cases h
 refine ⟨?_, e1⟩
 have := (leasts_iff (same := finerB (c.map Int.ofNat) (G.map refsOf)) (finer_key _ _) hkn hi).2 ((finer_key _ _ _ _).1 h)
 unfold fN finerL at e1 ⊢
 rw [this, e1]
theorem fN_end {G : List TyD} {c : List Nat} {i : Nat} (hi : i < G.length) (h : ∀ j, j < i → lsN G c j i = false) : fN G c i = i := by
 obtain ⟨h1, h2, -⟩ := fN_least (c := c) hi
 rcases Nat.lt_or_ge (fN G c i) i with hlt | hge
 ·rw [h _ hlt] at h2; cases h2
 ·omega
theorem lsN_eq {G : List TyD} {c : List Nat} {i j : Nat} (hj : j < G.length) (hi : i < G.length) : lsN G c j i = (decide (c.getD j 0 = c.getD i 0) && eqF (sameB (c.map Int.ofNat)) (refsOf (G.getD j default)) (refsOf (G.getD i default))) := by
 unfold lsN finerB
 rw [refs_at G j hj, refs_at G i hi]
 congr 1
 unfold sameB
 simp only [Int.toNat_natCast, getD_ofNat]
 rw [Bool.eq_iff_iff]
 simp only [decide_eq_true_eq]
 omega
theorem cls0_len (G : List TyD) : (cls0 G).length = G.length := (leasts_spec (fun f i => agreeB (G.getD f default) (G.getD i default)) G.length).1
theorem finer_len (B : List (List Int)) (n : Nat) (c : List Nat) : (finerL B n c).length = n := (leasts_spec (finerB (c.map Int.ofNat) B) n).1
theorem iter_len (G : List TyD) : ∀ m, (iterL (G.map refsOf) G.length m (cls0 G)).length = G.length
 | 0 => cls0_len G
 | m + 1 => by rw [iter_snoc]; exact finer_len _ _ _
theorem f0_step {G : List TyD} {i m : Nat} {e : Nat} (hi : i < G.length) (hm : m < i) (h : e = f0 G i ∨ (e = i ∧ ∀ j, m + 1 ≤ j → j < i → lsA G j i = false)) :
    (lsA G m i = true → f0 G m = f0 G i) ∧ (lsA G m i = false → (e = f0 G i ∨ (e = i ∧ ∀ j, m ≤ j → j < i → lsA G j i = false))) := by
  refine ⟨fun hs => f0_same hi (by omega) hs, fun hs => ?_⟩
  rcases h with h | ⟨h1, h2⟩
  ·exact .inl h
  ·refine .inr ⟨h1, fun j hj hji => ?_⟩
   rcases Nat.lt_or_ge m j with hlt | hge
   ·exact h2 j hlt hji
   ·obtain rfl : j = m := by omega
    exact hs
theorem f0_done {G : List TyD} {i e : Nat} (hi : i < G.length) (h : e = f0 G i ∨ (e = i ∧ ∀ j, 0 ≤ j → j < i → lsA G j i = false)) : e = f0 G i := by
 rcases h with h | ⟨h1, h2⟩
 ·exact h
 ·rw [h1, f0_end hi (fun j hj => h2 j (Nat.zero_le _) hj)]
end Go.Proofs.YteaokkaidcbdlaaGreatDoor

namespace Go.Proofs.YteaokkaidcbdlaaGreatDoor
open Go Go.RowKit Go.Shelf
set_option maxRecDepth 100000 in
set_option maxHeartbeats 8000000 in
theorem eqPartsO_any (v u : Value) (l m : List PartD) (fb : Nat) (W0 W : World) (hf : W0.cell? ⟨fb, 0, none⟩ = some oneV) (hl : SliceOf 2 (PartAt W0) v l) (hm : SliceOf 2 (PartAt W0) u m) (hB : Below W0.heap.size W0 W) :
    Calls Tryz.prog 165 #[v, u, .func (.func 162) #[] #[.pointer (some ⟨fb, 0, none⟩)]] W fun e w' => e = .returned (.bool (eqF partOneB l m)) ∧ Below W.heap.size W w' := by
  obtain ⟨o, cap, rfl⟩ := hl.form
  obtain ⟨p, cup, rfl⟩ := hm.form
  obtain ⟨_, hcm, hlc, hat⟩ := hl.at
  obtain ⟨_, hcm2, hlc2, hat2⟩ := hm.at
  have hl63 : l.length ≤ 9223372036854775807 := by unfold maxLen at hcm; omega
  clear hl hm hcm hcm2 hlc hlc2
  by_cases hlen : l.length = m.length
  ·have hne : ((l.length : Int) != m.length) = false := by simp; omega
   go_enter Tryz.func165, Tryz.ntmps165
   go_wp2
   go_loopw [17] (fun i wr => ∃ k : Nat, k ≤ l.length ∧ i = .int .i64 k ∧ Below W.heap.size W wr ∧ Hid (((l.zip m).take k).all (fun x => partOneB x.1 x.2) = true)) (fun i _ => l.length - (intOf i).toNat)
   case atStart => exact ⟨0, Nat.zero_le _, rfl, Below.refl _ _, Lib.hid rfl⟩
   case round =>
    obtain ⟨k, hk, rfl, hbw, HT⟩ := hrel
    by_cases hlt : k < l.length
    ·have hlt2 : k < m.length := by omega
     have hlt' : (k : Int) < l.length := by omega
     have hlt2' : (k : Int) < m.length := by omega
     have hbel : Below W0.heap.size W0 wr := hB.trans (hbw.mono hB.size)
     have hh := Holds.below hbel
     obtain ⟨b, off, rfl, e0⟩ := hat k l[k] (List.getElem?_eq_getElem hlt)
     obtain ⟨b2, off2, rfl, e1⟩ := hat2 k m[k] (List.getElem?_eq_getElem hlt2)
     skip
     have r0 : wr.cell? ⟨b, off + k * 2, none⟩ = some (.string l[k].name) := hh _ _ e0.1
     have r1 : wr.cell? ⟨b, off + k * 2 + 1, none⟩ = some (.int .i64 l[k].type) := hh _ _ e0.2
     skip
     have hb2 : Below wr.heap.size wr ((wr.alloc (.cells #[.string l[k].name, .int .i64 l[k].type] 93)).alloc (.cells #[.string m[k].name, .int .i64 m[k].type] 93)) := ((Below.refl _ _).alloc (Nat.le_refl _) _).alloc (by simp) _
     have r2 : ∀ o1, (wr.alloc o1).cell? ⟨b2, off2 + k * 2, none⟩ = some (.string m[k].name) := fun o1 => (World.cell?_alloc_lt _ _ _ (cell_lt (hh _ _ e1.1))).trans (hh _ _ e1.1)
     have r3 : ∀ o1, (wr.alloc o1).cell? ⟨b2, off2 + k * 2 + 1, none⟩ = some (.int .i64 m[k].type) := fun o1 => (World.cell?_alloc_lt _ _ _ (cell_lt (hh _ _ e1.2))).trans (hh _ _ e1.2)
     have r4 : wr.cell? ⟨b2, off2 + k * 2, none⟩ = some (.string m[k].name) := hh _ _ e1.1
     have r5 : wr.cell? ⟨b2, off2 + k * 2 + 1, none⟩ = some (.int .i64 m[k].type) := hh _ _ e1.2
     have hC : Calls Tryz.prog 162 #[.agg #[.string l[k].name, .int .i64 l[k].type], .agg #[.string m[k].name, .int .i64 m[k].type], .pointer (some ⟨fb, 0, none⟩)] _ fun e w' => e = .returned (.bool (partOneB l[k] m[k])) ∧ Below _ _ w' := partOne_any l[k].name m[k].name l[k].type m[k].type fb ((wr.alloc (.cells #[.string l[k].name, .int .i64 l[k].type] 93)).alloc (.cells #[.string m[k].name, .int .i64 m[k].type] 93)) (Holds.below hb2 _ _ (hh _ _ hf))
     have BL : Below W.heap.size W ((wr.alloc (.cells #[.string l[k].name, .int .i64 l[k].type] 93)).alloc (.cells #[.string m[k].name, .int .i64 m[k].type] 93)) := hbw.trans (hb2.mono hbw.size)
     clear e0 e1 hat hat2 hlen hne hh hbel
     cases hx : partOneB l[k] m[k] with
     | false =>
       rw [hx] at hC
       have HC := hide hC
       have HX := Lib.hid (eqF_no k hlt hlt2 hx)
       clear hC hx
       go_wp2_with (first | (go_at_call 162; refine (unhide HC).mono ?_; rintro e w4 ⟨rfl, hb4⟩))
       go_ret
       exact ⟨ret_bool HX.out.symm, BL.trans (hb4.mono BL.size)⟩
     | true =>
       rw [hx] at hC
       have HC := hide hC
       have HX := Lib.hid (show ((l.zip m).take (k + 1)).all (fun x => partOneB x.1 x.2) = true by rw [eqF_take k hlt hlt2, HT.out, hx]; rfl)
       clear hC hx
       go_wp2_with (first | (go_at_call 162; refine (unhide HC).mono ?_; rintro e w4 ⟨rfl, hb4⟩))
       go_roundw
       case rel => exact ⟨k + 1, by omega, by go_num, BL.trans (hb4.mono BL.size), HX⟩
       case measure => simp [intOf]; omega
    ·obtain rfl : k = l.length := by omega
     have HX := Lib.hid (eqF_yes hlen HT.out)
     go_wp2
     go_ret
     exact ⟨ret_bool HX.out.symm, hbw⟩
  ·have hne : ((l.length : Int) != m.length) = true := by simp; omega
   have HX := Lib.hid (eqF_len (f := partOneB) hlen)
   clear hlen hat hat2
   go_enter Tryz.func165, Tryz.ntmps165
   go_wp2
   go_ret
   exact ⟨ret_bool HX.out.symm, Below.refl _ _⟩
end Go.Proofs.YteaokkaidcbdlaaGreatDoor

namespace Go.Proofs.YteaokkaidcbdlaaGreatDoor
open Go Go.RowKit Go.Shelf
set_option maxRecDepth 100000 in
set_option maxHeartbeats 8000000 in
theorem eqMethsO_any (v u : Value) (l m : List MethD) (fb : Nat) (W0 W : World) (hf : W0.cell? ⟨fb, 0, none⟩ = some oneV) (hl : SliceOf 5 (MethAt W0) v l) (hm : SliceOf 5 (MethAt W0) u m) (hB : Below W0.heap.size W0 W) :
    Calls Tryz.prog 166 #[v, u, .func (.func 163) #[] #[.pointer (some ⟨fb, 0, none⟩)]] W fun e w' => e = .returned (.bool (eqF methOneB l m)) ∧ Below W.heap.size W w' := by
  obtain ⟨o, cap, rfl⟩ := hl.form
  obtain ⟨p, cup, rfl⟩ := hm.form
  obtain ⟨_, hcm, hlc, hat⟩ := hl.at
  obtain ⟨_, hcm2, hlc2, hat2⟩ := hm.at
  have hl63 : l.length ≤ 9223372036854775807 := by unfold maxLen at hcm; omega
  clear hl hm hcm hcm2 hlc hlc2
  by_cases hlen : l.length = m.length
  ·have hne : ((l.length : Int) != m.length) = false := by simp; omega
   go_enter Tryz.func166, Tryz.ntmps166
   go_wp2
   go_loopw [17] (fun i wr => ∃ k : Nat, k ≤ l.length ∧ i = .int .i64 k ∧ Below W.heap.size W wr ∧ Hid (((l.zip m).take k).all (fun x => methOneB x.1 x.2) = true)) (fun i _ => l.length - (intOf i).toNat)
   case atStart => exact ⟨0, Nat.zero_le _, rfl, Below.refl _ _, Lib.hid rfl⟩
   case round =>
    obtain ⟨k, hk, rfl, hbw, HT⟩ := hrel
    by_cases hlt : k < l.length
    ·have hlt2 : k < m.length := by omega
     have hlt' : (k : Int) < l.length := by omega
     have hlt2' : (k : Int) < m.length := by omega
     have hbel : Below W0.heap.size W0 wr := hB.trans (hbw.mono hB.size)
     have hh := Holds.below hbel
     obtain ⟨b, off, rfl, e0⟩ := hat k l[k] (List.getElem?_eq_getElem hlt)
     obtain ⟨b2, off2, rfl, e1⟩ := hat2 k m[k] (List.getElem?_eq_getElem hlt2)
     obtain ⟨va, vr, hv, x0, x1, x2, x3, x4⟩ := e0
     obtain ⟨ua, ur, hu, y0, y1, y2, y3, y4⟩ := e1
     obtain ⟨oa, ca, rfl⟩ := hv.args.form
     obtain ⟨orr, cr, rfl⟩ := hv.raises.form
     obtain ⟨pa, da, rfl⟩ := hu.args.form
     obtain ⟨pr, dr, rfl⟩ := hu.raises.form
     have r0 : wr.cell? ⟨b, off + k * 5, none⟩ = some (.string l[k].name) := hh _ _ x0
     have r1 : wr.cell? ⟨b, off + k * 5 + 1, none⟩ = some (.slice oa l[k].args.length ca) := hh _ _ x1
     have r2 : wr.cell? ⟨b, off + k * 5 + 2, none⟩ = some (.int .i64 l[k].result) := hh _ _ x2
     have r3 : wr.cell? ⟨b, off + k * 5 + 3, none⟩ = some (.slice orr l[k].raises.length cr) := hh _ _ x3
     have r4 : wr.cell? ⟨b, off + k * 5 + 4, none⟩ = some (.string l[k].proc) := hh _ _ x4
     skip
     have hb2 : Below wr.heap.size wr ((wr.alloc (.cells #[.string l[k].name, .slice oa l[k].args.length ca, .int .i64 l[k].result, .slice orr l[k].raises.length cr, .string l[k].proc] 74)).alloc (.cells #[.string m[k].name, .slice pa m[k].args.length da, .int .i64 m[k].result, .slice pr m[k].raises.length dr, .string m[k].proc] 74)) := ((Below.refl _ _).alloc (Nat.le_refl _) _).alloc (by simp) _
     have q0 : ∀ o1, (wr.alloc o1).cell? ⟨b2, off2 + k * 5, none⟩ = some (.string m[k].name) := fun o1 => (World.cell?_alloc_lt _ _ _ (cell_lt (hh _ _ y0))).trans (hh _ _ y0)
     have q1 : ∀ o1, (wr.alloc o1).cell? ⟨b2, off2 + k * 5 + 1, none⟩ = some (.slice pa m[k].args.length da) := fun o1 => (World.cell?_alloc_lt _ _ _ (cell_lt (hh _ _ y1))).trans (hh _ _ y1)
     have q2 : ∀ o1, (wr.alloc o1).cell? ⟨b2, off2 + k * 5 + 2, none⟩ = some (.int .i64 m[k].result) := fun o1 => (World.cell?_alloc_lt _ _ _ (cell_lt (hh _ _ y2))).trans (hh _ _ y2)
     have q3 : ∀ o1, (wr.alloc o1).cell? ⟨b2, off2 + k * 5 + 3, none⟩ = some (.slice pr m[k].raises.length dr) := fun o1 => (World.cell?_alloc_lt _ _ _ (cell_lt (hh _ _ y3))).trans (hh _ _ y3)
     have q4 : ∀ o1, (wr.alloc o1).cell? ⟨b2, off2 + k * 5 + 4, none⟩ = some (.string m[k].proc) := fun o1 => (World.cell?_alloc_lt _ _ _ (cell_lt (hh _ _ y4))).trans (hh _ _ y4)
     have hC := methOne_any l[k] m[k] _ _ _ _ fb ((wr.alloc (.cells #[.string l[k].name, .slice oa l[k].args.length ca, .int .i64 l[k].result, .slice orr l[k].raises.length cr, .string l[k].proc] 74)).alloc (.cells #[.string m[k].name, .slice pa m[k].args.length da, .int .i64 m[k].result, .slice pr m[k].raises.length dr, .string m[k].proc] 74)) (Holds.below hb2 _ _ (hh _ _ hf)) ((hv.go hh).below hb2) ((hu.go hh).below hb2)
     have BL : Below W.heap.size W ((wr.alloc (.cells #[.string l[k].name, .slice oa l[k].args.length ca, .int .i64 l[k].result, .slice orr l[k].raises.length cr, .string l[k].proc] 74)).alloc (.cells #[.string m[k].name, .slice pa m[k].args.length da, .int .i64 m[k].result, .slice pr m[k].raises.length dr, .string m[k].proc] 74)) := hbw.trans (hb2.mono hbw.size)
     clear x0 x1 x2 x3 x4 y0 y1 y2 y3 y4 hv hu hat hat2 hlen hne hh hbel
     cases hx : methOneB l[k] m[k] with
     | false =>
       rw [hx] at hC
       have HC := hide hC
       have HX := Lib.hid (eqF_no k hlt hlt2 hx)
       clear hC hx
       go_wp2_with (first | (go_at_call 163; refine (unhide HC).mono ?_; rintro e w4 ⟨rfl, hb4⟩))
       go_ret
       exact ⟨ret_bool HX.out.symm, BL.trans (hb4.mono BL.size)⟩
     | true =>
       rw [hx] at hC
       have HC := hide hC
       have HX := Lib.hid (show ((l.zip m).take (k + 1)).all (fun x => methOneB x.1 x.2) = true by rw [eqF_take k hlt hlt2, HT.out, hx]; rfl)
       clear hC hx
       go_wp2_with (first | (go_at_call 163; refine (unhide HC).mono ?_; rintro e w4 ⟨rfl, hb4⟩))
       go_roundw
       case rel => exact ⟨k + 1, by omega, by go_num, BL.trans (hb4.mono BL.size), HX⟩
       case measure => simp [intOf]; omega
    ·obtain rfl : k = l.length := by omega
     have HX := Lib.hid (eqF_yes hlen HT.out)
     go_wp2
     go_ret
     exact ⟨ret_bool HX.out.symm, hbw⟩
  ·have hne : ((l.length : Int) != m.length) = true := by simp; omega
   have HX := Lib.hid (eqF_len (f := methOneB) hlen)
   clear hlen hat hat2
   go_enter Tryz.func166, Tryz.ntmps166
   go_wp2
   go_ret
   exact ⟨ret_bool HX.out.symm, Below.refl _ _⟩
end Go.Proofs.YteaokkaidcbdlaaGreatDoor

