/- What a piece hangs on: its bytes, and what stands behind it. -/
import Derived.Test.YteknngncnbfbnaaGreatDoorMb
import Derived.Lib.IndexMore
import Derived.KernelRfl
namespace Go.Proofs.YteknngncnbfbnaaGreatDoor
open Go Go.RowKit Go.Shelf
/-- Where something first stands in a text from a place on, and how far it goes; 0: nowhere. -/
def foundL (l : List UInt8) (k : Nat) (t : List UInt8) : Nat := if Lib.index (l.drop k) t < 0 then 0 else k + (Lib.index (l.drop k) t).toNat + t.length
theorem foundL_hit {l t : List UInt8} {k : Nat} (h : preB (l.drop k) t = true) : foundL l k t = k + t.length := by
  have : Lib.index (l.drop k) t = 0 := Lib.index_first (i := 0) (Nat.zero_le _) h (fun _ h => absurd h (Nat.not_lt_zero _))
  unfold foundL
  rw [this]; rfl
theorem foundL_next {l t : List UInt8} {k : Nat} (hk : k < l.length) (h : preB (l.drop k) t = false) : foundL l k t = foundL l (k + 1) t := by
  have e : l.drop k = l[k] :: l.drop (k + 1) := List.drop_eq_getElem_cons hk
  have hi : Lib.index (l.drop k) t = if Lib.index (l.drop (k + 1)) t == -1 then -1 else Lib.index (l.drop (k + 1)) t + 1 := by
    rw [e] at h ⊢
    conv => lhs; unfold Lib.index
    rw [if_neg (by unfold preB at h; rw [h]; decide)]
  have hge := Lib.index_ge (l.drop (k + 1)) t
  unfold foundL
  rw [hi]
  by_cases h1 : Lib.index (l.drop (k + 1)) t = -1
  · rw [h1]; rfl
  · have e2 : Lib.index (l.drop k) t = Lib.index (l.drop (k + 1)) t + 1 := by rw [hi, if_neg (by simpa using h1)]
    rw [← hi, e2, if_neg (by omega), if_neg (by omega)]
    omega
theorem foundL_end {l t : List UInt8} {k : Nat} (h : l.length < k + t.length) (hk : k ≤ l.length) : foundL l k t = 0 := by
  unfold foundL
  rw [if_pos]
  refine Decidable.byContradiction fun hn => ?_
  have := Lib.index_room (l.drop k) t (by omega)
  rw [List.length_drop] at this
  omega
theorem spn_le' (p : Int → Bool) (l : List UInt8) : spn p l ≤ l.length := by
  induction l with
  | nil => exact Nat.le_refl _
  | cons c l ih => show (if p c.toNat then spn p l + 1 else 0) ≤ _; split <;> simp <;> omega
theorem spn_at_byte {p : Int → Bool} : ∀ {l : List UInt8} {i : Nat}, (∀ j, j < i → ∀ c, l[j]? = some c → p c.toNat = true) → (∀ c, l[i]? = some c → p c.toNat = false) → i ≤ l.length → spn p l = i
  | [], i, _, _, h => by have : i = 0 := by simpa using h
                         subst this; rfl
  | c :: l, 0, _, h2, _ => by
    show (if p c.toNat then spn p l + 1 else 0) = 0
    rw [if_neg (by rw [h2 c rfl]; decide)]
  | c :: l, i + 1, h1, h2, h3 => by
    show (if p c.toNat then spn p l + 1 else 0) = i + 1
    rw [if_pos (h1 0 (by omega) c rfl), spn_at_byte (i := i) (fun j hj d hd => h1 (j + 1) (by omega) d (by simpa using hd)) (fun d hd => h2 d (by simpa using hd)) (by simpa using h3)]
theorem preB_one {l : List UInt8} {k : Nat} {x : UInt8} : preB (l.drop k) [x] = decide (l[k]? = some x) := by
  cases h : l.drop k with
  | nil =>
    have : l[k]? = none := by rw [List.getElem?_eq_none]; have := congrArg List.length h; simp at this; omega
    rw [this]; rfl
  | cons a r =>
    have : l[k]? = some a := by rw [← List.head?_drop, h]; rfl
    rw [this]
    unfold preB
    rw [Bool.eq_iff_iff]
    simp [List.isPrefixOf]
    exact eq_comm
/-- A text's piece, in the reference's words. -/
theorem txt_ref {l : List UInt8} :
    (txtOk l = true → foundL l 1 [34] = txtLen l + 2 ∧ brandB ((l.drop 1).take (txtLen l)) = true) ∧
    (txtOk l = false → foundL l 1 [34] = 0 ∨ (2 ≤ foundL l 1 [34] ∧ brandB ((l.drop 1).take (foundL l 1 [34] - 2)) = false)) := by
  unfold txtOk
  have hix := Lib.index_one (l.drop 1) 34
  have hge := Lib.index_ge (l.drop 1) [34]
  by_cases hi : Lib.index (l.drop 1) [34] < 0
  · have hf : foundL l 1 [34] = 0 := by unfold foundL; rw [if_pos hi]
    have hno : ∀ k, l[k + 1]? ≠ some 34 := by
      intro k hk
      refine Lib.indexByte_none (l := l.drop 1) (c := 34) (by omega) k ?_
      rw [List.getElem?_drop, Nat.add_comm]; exact hk
    have hp : preB (l.drop (1 + txtLen l)) [34] = false := by
      rw [preB_one, Nat.add_comm]
      exact decide_eq_false (hno _)
    rw [hp]
    exact ⟨fun h => (by cases h), fun _ => .inl hf⟩
  · obtain ⟨i, ho⟩ : ∃ i : Nat, Lib.index (l.drop 1) [34] = i := ⟨(Lib.index (l.drop 1) [34]).toNat, by omega⟩
    have hf : foundL l 1 [34] = i + 2 := by
      unfold foundL; rw [if_neg hi, ho, Int.toNat_natCast]; show 1 + i + 1 = i + 2; omega
    obtain ⟨ha, hb⟩ := Lib.indexByte_some (hix.symm.trans ho)
    have hlt := (List.getElem?_eq_some_iff.1 ha).1
    rw [hf]
    by_cases hlf : ∀ j, j < i → (l.drop 1)[j]? ≠ some 10
    · have hs : txtLen l = i := by
        unfold txtLen
        refine spn_at_byte (fun j hj c hc => ?_) (fun c hc => ?_) (by omega)
        · have n1 := hb j hj
          have n2 := hlf j hj
          rw [hc] at n1 n2
          unfold txtB
          refine decide_eq_true ⟨?_, ?_⟩
          · intro h; exact n1 (congrArg some (UInt8.toNat_inj.1 (by have : (34 : UInt8).toNat = 34 := rfl
                                                                    omega)))
          · intro h; exact n2 (congrArg some (UInt8.toNat_inj.1 (by have : (10 : UInt8).toNat = 10 := rfl
                                                                    omega)))
        · rw [ha] at hc; injection hc with hc; subst hc; rfl
      rw [hs]
      have hp : preB (l.drop (1 + i)) [34] = true := by
        rw [preB_one]
        rw [List.getElem?_drop] at ha
        exact decide_eq_true ha
      rw [hp, Bool.true_and]
      exact ⟨fun h => ⟨rfl, h⟩, fun h => .inr ⟨by omega, by rw [Nat.add_sub_cancel]; exact h⟩⟩
    · have : ∃ j, j < i ∧ (l.drop 1)[j]? = some 10 := by
        refine Decidable.byContradiction fun hn => hlf fun j hj he => hn ⟨j, hj, he⟩
      obtain ⟨j, hj, he⟩ := this
      have hbr : brandB ((l.drop 1).take i) = false := by
        have hm : (10 : UInt8) ∈ (l.drop 1).take i := by
          refine List.mem_of_getElem? (i := j) ?_
          rw [List.getElem?_take, if_pos hj, he]
        unfold brandB
        split
        · rfl
        · split
          · rfl
          · unfold allB
            refine Bool.eq_false_iff.2 fun hall => ?_
            have := List.all_eq_true.1 hall 10 hm
            exact absurd this (by decide)
      refine ⟨fun h => ?_, fun _ => .inr ⟨by omega, by rw [Nat.add_sub_cancel]; exact hbr⟩⟩
      exfalso
      rw [Bool.and_eq_true, preB_one, decide_eq_true_eq] at h
      have h3 := h.1
      -- the span ends at a line feed ahead of the quote
      have hle : txtLen l ≤ j := by
        unfold txtLen
        refine Decidable.byContradiction fun hgt => ?_
        have key : ∀ (m : List UInt8) (j : Nat), j < spn txtB m → ∀ c, m[j]? = some c → txtB c.toNat = true := by
          intro m
          induction m with
          | nil => intro j hj; exact absurd hj (Nat.not_lt_zero _)
          | cons d m ih =>
            intro j hj c hc
            have hj' : j < (if txtB d.toNat then spn txtB m + 1 else 0) := hj
            cases hd : txtB d.toNat with
            | false => rw [hd] at hj'; exact absurd hj' (Nat.not_lt_zero _)
            | true =>
              rw [hd] at hj'
              cases j with
              | zero => have e : d = c := by simpa using hc
                        rw [← e]; exact hd
              | succ j => exact ih j (by simpa using hj') c (by simpa using hc)
        have := key (l.drop 1) j (by omega) 10 he
        exact absurd this (by decide)
      refine hb (txtLen l) (by omega) ?_
      rw [List.getElem?_drop]; exact h3
theorem sgnF_none {xs : List (List UInt8)} {l : List UInt8} (h : ∀ t ∈ xs, preB l t = false) : sgnF xs l = [] := by
  unfold sgnF
  suffices g : ∀ acc, xs.foldl (fun acc t => if preB l t then t else acc) acc = acc from g []
  induction xs with
  | nil => exact fun acc => rfl
  | cons x xs ih =>
    intro acc
    rw [List.foldl_cons, if_neg (by rw [h x List.mem_cons_self]; decide)]
    exact ih (fun t ht => h t (List.mem_cons_of_mem _ ht)) acc
theorem signs_heads0 : ∀ t ∈ signsL, [t.headD 0] ∈ signsL ∧ t ≠ [] := by decide
theorem signs_heads (t : List UInt8) (h : t ∈ signsL) : ∃ x r, t = x :: r ∧ [x] ∈ signsL := by
  obtain ⟨h1, h2⟩ := signs_heads0 t h
  cases t with
  | nil => exact absurd rfl h2
  | cons x r => exact ⟨x, r, rfl, h1⟩
theorem sgn_none {a : UInt8} {l : List UInt8} (h : [a] ∉ signsL) : sgn (a :: l) = [] := by
  refine sgnF_none fun t ht => ?_
  obtain ⟨x, r, rfl, hx⟩ := signs_heads t ht
  unfold preB
  show (x == a && r.isPrefixOf l) = false
  have : (x == a) = false := by rw [beq_eq_false_iff_ne]; intro e; subst e; exact h hx
  rw [this]; rfl
theorem two_signs (a b : UInt8) (h : [a, b] ∈ signsL) : (a = 46 ∧ b = 46) ∨ (a = 58 ∧ b = 61) ∨ (a = 60 ∧ b = 58) ∨ (a = 60 ∧ b = 61) ∨ (a = 61 ∧ b = 62) := by
  simpa [signsL] using h
theorem sgn_two {a b : UInt8} {l : List UInt8} (h : [a, b] ∈ signsL) : (sgn (a :: b :: l)).length = 2 := by
  rcases two_signs a b h with ⟨rfl, rfl⟩ | ⟨rfl, rfl⟩ | ⟨rfl, rfl⟩ | ⟨rfl, rfl⟩ | ⟨rfl, rfl⟩ <;> rfl
theorem one_signs (a : UInt8) (h : [a] ∈ signsL) : a = 35 ∨ a = 40 ∨ a = 41 ∨ a = 42 ∨ a = 43 ∨ a = 44 ∨ a = 45 ∨ a = 46 ∨ a = 58 ∨ a = 59 ∨ a = 60 ∨ a = 61 ∨ a = 91 ∨ a = 93 ∨ a = 94 ∨ a = 123 ∨ a = 124 ∨ a = 125 := by
  simpa [signsL] using h
theorem sgn_alone {a : UInt8} (h : [a] ∈ signsL) : (sgn [a]).length = 1 := by
  rcases one_signs a h with rfl | rfl | rfl | rfl | rfl | rfl | rfl | rfl | rfl | rfl | rfl | rfl | rfl | rfl | rfl | rfl | rfl | rfl <;> rfl
theorem sgn_one {a b : UInt8} {l : List UInt8} (h : [a] ∈ signsL) (h2 : [a, b] ∉ signsL) : (sgn (a :: b :: l)).length = 1 := by
  have n1 : ∀ t ∈ signsL, t.length ≤ 2 := by decide
  rcases one_signs a h with rfl | rfl | rfl | rfl | rfl | rfl | rfl | rfl | rfl | rfl | rfl | rfl | rfl | rfl | rfl | rfl | rfl | rfl
  all_goals first
    | rfl
    | (simp [signsL] at h2
       simp [sgn, sgnF, signsL, preB]
       repeat (rw [if_neg (by first | exact fun e => h2 e.symm | exact fun e => h2.1 e.symm | exact fun e => h2.2 e.symm)])
       try rfl)
/-- Which sign stands at the head, in the reference's words. -/
theorem sgn_ref {l : List UInt8} (h1 : 1 ≤ l.length) :
    (2 ≤ l.length ∧ l.take 2 ∈ signsL → (sgn l).length = 2) ∧
    (¬ (2 ≤ l.length ∧ l.take 2 ∈ signsL) → l.take 1 ∈ signsL → (sgn l).length = 1) ∧
    (¬ (2 ≤ l.length ∧ l.take 2 ∈ signsL) → l.take 1 ∉ signsL → sgn l = []) := by
  match l, h1 with
  | [a], _ => exact ⟨fun h => absurd h.1 (by simp), fun _ h => sgn_alone h, fun _ h => sgn_none h⟩
  | a :: b :: r, _ => exact ⟨fun h => sgn_two h.2, fun h2 h => sgn_one h (fun h3 => h2 ⟨by simp, h3⟩), fun _ h => sgn_none h⟩
theorem firstL_eq (l : List UInt8) : firstL l =
    if onB blkB l then .ok 6 (spn blkB l)
    else if preB l [40, 42] then (match closeL 1 (l.drop 2) with | none => .bad 13 | some n => .ok 7 (2 + n))
    else if preB l [60, 42] then (if Lib.index (l.drop 2) [42, 62] < 0 then .bad 13 else .ok 8 (2 + ((Lib.index (l.drop 2) [42, 62]).toNat + 2)))
    else if onB letB l then (if memB wordsL (l.take (spn alnB l)) then .ok 2 (spn alnB l) else if 12 < spn alnB l then .bad 12 else .ok 1 (spn alnB l))
    else if onB digB l then (match valR (l.take (numLen l)) with | none => .bad 11 | some _ => .ok 3 (numLen l))
    else if preB l [34] then (if txtOk l then .ok 4 (txtLen l + 2) else .bad 14)
    else if sgn l = [] then .bad 10 else .ok 5 (sgn l).length := by
  unfold firstL fin0 fin1 fin2 fin3 fin4 fin5 fin6
  split
  · rfl
  · split
    · rfl
    · split
      · rfl
      · split
        · rfl
        · split
          · rfl
          · split
            · rfl
            · split <;> rfl
/-- What a first piece may be. -/
inductive FirstIs (l : List UInt8) : Nat → Nat → Prop where
  | blank (h : onB blkB l = true) : FirstIs l 6 (spn blkB l)
  | comment (m : Nat) (h0 : onB blkB l = false) (h : preB l [40, 42] = true) (hm : closeL 1 (l.drop 2) = some m) : FirstIs l 7 (2 + m)
  | pragma (i : Nat) (h0 : onB blkB l = false) (h1 : preB l [40, 42] = false) (h : preB l [60, 42] = true) (hi : Lib.index (l.drop 2) [42, 62] = i) : FirstIs l 8 (2 + (i + 2))
  | word (h0 : onB blkB l = false) (h1 : preB l [40, 42] = false) (h2 : preB l [60, 42] = false) (h : onB letB l = true) (hw : memB wordsL (l.take (spn alnB l)) = true) : FirstIs l 2 (spn alnB l)
  | name (h0 : onB blkB l = false) (h1 : preB l [40, 42] = false) (h2 : preB l [60, 42] = false) (h : onB letB l = true) (hw : memB wordsL (l.take (spn alnB l)) = false) (hl : spn alnB l ≤ 12) : FirstIs l 1 (spn alnB l)
  | number (v : Nat) (h0 : onB blkB l = false) (h1 : preB l [40, 42] = false) (h2 : preB l [60, 42] = false) (h3 : onB letB l = false) (h : onB digB l = true) (hv : valR (l.take (numLen l)) = some v) : FirstIs l 3 (numLen l)
  | text (h0 : onB blkB l = false) (h1 : preB l [40, 42] = false) (h2 : preB l [60, 42] = false) (h3 : onB letB l = false) (h4 : onB digB l = false) (h : preB l [34] = true) (ht : txtOk l = true) : FirstIs l 4 (txtLen l + 2)
  | sign (h0 : onB blkB l = false) (h1 : preB l [40, 42] = false) (h2 : preB l [60, 42] = false) (h3 : onB letB l = false) (h4 : onB digB l = false) (h5 : preB l [34] = false) (h : sgn l ≠ []) : FirstIs l 5 (sgn l).length
theorem firstL_is {l : List UInt8} {kd n : Nat} (h : firstL l = .ok kd n) : FirstIs l kd n := by
  rw [firstL_eq] at h
  split at h
  next h0 => injection h with e1 e2; subst e1 e2; exact .blank h0
  next h0 =>
    have h0 : onB blkB l = false := by simpa using h0
    split at h
    next h1 =>
      split at h
      · cases h
      next m hm => injection h with e1 e2; subst e1 e2; exact .comment m h0 h1 hm
    next h1 =>
      have h1 : preB l [40, 42] = false := by simpa using h1
      split at h
      next h2 =>
        split at h
        · cases h
        next hi =>
          injection h with e1 e2; subst e1 e2
          exact .pragma _ h0 h1 h2 (by omega)
      next h2 =>
        have h2 : preB l [60, 42] = false := by simpa using h2
        split at h
        next h3 =>
          split at h
          next hw => injection h with e1 e2; subst e1 e2; exact .word h0 h1 h2 h3 hw
          next hw =>
            split at h
            · cases h
            next hl => injection h with e1 e2; subst e1 e2; exact .name h0 h1 h2 h3 (by simpa using hw) (by omega)
        next h3 =>
          have h3 : onB letB l = false := by simpa using h3
          split at h
          next h4 =>
            split at h
            · cases h
            next v hv => injection h with e1 e2; subst e1 e2; exact .number v h0 h1 h2 h3 h4 hv
          next h4 =>
            have h4 : onB digB l = false := by simpa using h4
            split at h
            next h5 =>
              split at h
              next ht => injection h with e1 e2; subst e1 e2; exact .text h0 h1 h2 h3 h4 h5 ht
              · cases h
            next h5 =>
              have h5 : preB l [34] = false := by simpa using h5
              split at h
              · cases h
              next h6 => injection h with e1 e2; subst e1 e2; exact .sign h0 h1 h2 h3 h4 h5 h6
theorem first_of {l : List UInt8} {kd n : Nat} (h : FirstIs l kd n) : firstL l = .ok kd n := by
  rw [firstL_eq]
  cases h with
  | blank h => rw [if_pos h]
  | comment m h0 h hm => rw [if_neg (by rw [h0]; decide), if_pos h, hm]
  | pragma i h0 h1 h hi => rw [if_neg (by rw [h0]; decide), if_neg (by rw [h1]; decide), if_pos h, hi, if_neg (by omega)]; rfl
  | word h0 h1 h2 h hw => rw [if_neg (by rw [h0]; decide), if_neg (by rw [h1]; decide), if_neg (by rw [h2]; decide), if_pos h, if_pos hw]
  | name h0 h1 h2 h hw hl => rw [if_neg (by rw [h0]; decide), if_neg (by rw [h1]; decide), if_neg (by rw [h2]; decide), if_pos h, if_neg (by rw [hw]; decide), if_neg (by omega)]
  | number v h0 h1 h2 h3 h hv => rw [if_neg (by rw [h0]; decide), if_neg (by rw [h1]; decide), if_neg (by rw [h2]; decide), if_neg (by rw [h3]; decide), if_pos h, hv]
  | text h0 h1 h2 h3 h4 h ht => rw [if_neg (by rw [h0]; decide), if_neg (by rw [h1]; decide), if_neg (by rw [h2]; decide), if_neg (by rw [h3]; decide), if_neg (by rw [h4]; decide), if_pos h, if_pos ht]
  | sign h0 h1 h2 h3 h4 h5 h => rw [if_neg (by rw [h0]; decide), if_neg (by rw [h1]; decide), if_neg (by rw [h2]; decide), if_neg (by rw [h3]; decide), if_neg (by rw [h4]; decide), if_neg (by rw [h5]; decide), if_neg h]
/-- Two texts agree on their first bytes. -/
def Agr (n : Nat) (l' l : List UInt8) : Prop := ∀ j, j < n → l'[j]? = l[j]?
theorem agr_take {n : Nat} {l' l : List UInt8} (h : l'.take n = l.take n) : Agr n l' l := by
  intro j hj
  have := congrArg (fun x => x[j]?) h
  simpa [List.getElem?_take, hj] using this
theorem agr_drop {n k : Nat} {l' l : List UInt8} (h : Agr (n + k) l' l) : Agr n (l'.drop k) (l.drop k) := by
  intro j hj
  rw [List.getElem?_drop, List.getElem?_drop]
  exact h _ (by omega)
theorem agr_mono {n m : Nat} {l' l : List UInt8} (h : Agr n l' l) (hm : m ≤ n) : Agr m l' l := fun j hj => h j (by omega)
theorem take_agr {n : Nat} {l' l : List UInt8} (h : Agr n l' l) : l'.take n = l.take n := by
  apply List.ext_getElem?
  intro j
  rw [List.getElem?_take, List.getElem?_take]
  by_cases hj : j < n
  · rw [if_pos hj, if_pos hj, h j hj]
  · rw [if_neg hj, if_neg hj]
theorem agr_len {n : Nat} {l' l : List UInt8} (h : Agr n l' l) (hn : n ≤ l.length) : n ≤ l'.length := by
  cases n with
  | zero => exact Nat.zero_le _
  | succ n =>
    have h1 := h n (by omega)
    rw [List.getElem?_eq_getElem (show n < l.length by omega)] at h1
    have := (List.getElem?_eq_some_iff.1 h1).1
    omega
theorem onB_get (p : Int → Bool) (l : List UInt8) : onB p l = (match l[0]? with | none => false | some c => p c.toNat) := by cases l <;> rfl
theorem onB_agr {p : Int → Bool} {l' l : List UInt8} {n : Nat} (hn : 1 ≤ n) (h : Agr n l' l) : onB p l' = onB p l := by rw [onB_get, onB_get, h 0 (by omega)]
theorem preB_one0 {l : List UInt8} {x : UInt8} : preB l [x] = decide (l[0]? = some x) := preB_one (k := 0)
theorem preB_two0 (l : List UInt8) (x y : UInt8) : preB l [x, y] = decide (l[0]? = some x ∧ l[1]? = some y) := by
  unfold preB
  match l with
  | [] => simp [List.isPrefixOf]
  | [a] => simp [List.isPrefixOf]
  | a :: b :: r =>
    rw [Bool.eq_iff_iff]
    simp only [List.isPrefixOf, Bool.and_true, Bool.and_eq_true, beq_iff_eq, decide_eq_true_eq, List.getElem?_cons_zero, List.getElem?_cons_succ, Option.some.injEq]
    constructor <;> (rintro ⟨rfl, rfl⟩; exact ⟨rfl, rfl⟩)
theorem preB_two {l : List UInt8} {k : Nat} {x y : UInt8} : preB (l.drop k) [x, y] = decide (l[k]? = some x ∧ l[k + 1]? = some y) := by
  rw [preB_two0, List.getElem?_drop, List.getElem?_drop]; rfl
theorem spn_bytes {p : Int → Bool} : ∀ {l : List UInt8} {j : Nat}, j < spn p l → ∀ c, l[j]? = some c → p c.toNat = true
  | [], j, hj, _, _ => absurd hj (Nat.not_lt_zero _)
  | d :: m, j, hj, c, hc => by
    have hj' : j < (if p d.toNat then spn p m + 1 else 0) := hj
    cases hd : p d.toNat with
    | false => rw [hd] at hj'; exact absurd hj' (Nat.not_lt_zero _)
    | true =>
      rw [hd] at hj'
      cases j with
      | zero => have e : d = c := by simpa using hc
                rw [← e]; exact hd
      | succ j => exact spn_bytes (l := m) (j := j) (by simpa using hj') c (by simpa using hc)
theorem spn_stop {p : Int → Bool} : ∀ {l : List UInt8} {c : UInt8}, l[spn p l]? = some c → p c.toNat = false
  | [], c, h => by cases h
  | d :: m, c, h => by
    have h' : (d :: m)[if p d.toNat then spn p m + 1 else 0]? = some c := h
    cases hd : p d.toNat with
    | false =>
      rw [hd] at h'
      have e : d = c := by simpa using h'
      rw [← e]; exact hd
    | true =>
      rw [hd] at h'
      exact spn_stop (l := m) (by simpa using h')
theorem spn_same {p : Int → Bool} {l' l : List UInt8} {n : Nat} (hs : spn p l = n) (ha : Agr n l' l) (he : ∀ c, l'[n]? = some c → p c.toNat = false) : spn p l' = n := by
  have hn : n ≤ l.length := by rw [← hs]; exact spn_le' p l
  refine spn_at_byte (fun j hj c hc => ?_) he (agr_len ha hn)
  rw [ha j hj] at hc
  exact spn_bytes (by omega) c hc
theorem take_cons_inv {l' x : List UInt8} {a : UInt8} {m : Nat} (h : l'.take (m + 1) = a :: x) : ∃ t, l' = a :: t ∧ t.take m = x := by
  cases l' with
  | nil => simp at h
  | cons b t => rw [List.take_succ_cons] at h
                injection h with h1 h2
                exact ⟨t, by rw [h1], h2⟩
theorem closeL_three (d : Nat) (a b : UInt8) (l : List UInt8) : closeL d (a :: b :: l) = if a = 40 ∧ b = 42 then (closeL (d + 1) l).map (· + 2)
    else if a = 42 ∧ b = 41 then (if d = 1 then some 2 else (closeL (d - 1) l).map (· + 2))
    else (closeL d (b :: l)).map (· + 1) := by
  conv => lhs; unfold closeL
theorem closeL_two : ∀ {k : Nat} {l : List UInt8} {d m : Nat}, l.length ≤ k → closeL d l = some m → 2 ≤ m
  | _, [], _, _, _, h => by unfold closeL at h; cases h
  | _, [_], _, _, _, h => by unfold closeL at h; cases h
  | 0, _ :: _ :: _, _, _, hk, _ => by simp at hk
  | k + 1, a :: b :: l, d, m, hk, h => by
    have hk : l.length + 1 ≤ k := by simpa using hk
    rw [closeL_three] at h
    split at h
    · cases hc : closeL (d + 1) l with
      | none => rw [hc] at h; cases h
      | some q =>
        have h : q + 2 = m := (by rw [hc] at h; simpa using h)
        omega
    · split at h
      · split at h
        · injection h with h; omega
        · cases hc : closeL (d - 1) l with
          | none => rw [hc] at h; cases h
          | some q =>
            have h : q + 2 = m := (by rw [hc] at h; simpa using h)
            omega
      · cases hc : closeL d (b :: l) with
        | none => rw [hc] at h; cases h
        | some q =>
          have h : q + 1 = m := (by rw [hc] at h; simpa using h)
          have := closeL_two (k := k) (l := b :: l) (by simpa using hk) hc
          omega
theorem closeL_keep : ∀ {k : Nat} {l l' : List UInt8} {d m : Nat}, l.length ≤ k → closeL d l = some m → l'.take m = l.take m → closeL d l' = some m
  | _, [], _, _, _, _, h, _ => by unfold closeL at h; cases h
  | _, [_], _, _, _, _, h, _ => by unfold closeL at h; cases h
  | 0, _ :: _ :: _, _, _, _, hk, _, _ => by simp at hk
  | k + 1, a :: b :: l, l', d, m, hk, h, ht => by
    have hk : l.length + 1 ≤ k := by simpa using hk
    have h2 := closeL_two (Nat.le_refl _) h
    obtain ⟨q, rfl⟩ : ∃ q, m = q + 2 := ⟨m - 2, by omega⟩
    rw [List.take_succ_cons, List.take_succ_cons] at ht
    obtain ⟨t1, rfl, ht1⟩ := take_cons_inv ht
    obtain ⟨t, rfl, ht2⟩ := take_cons_inv ht1
    rw [closeL_three] at h ⊢
    split at h
    next h1 =>
      rw [if_pos h1]
      cases hc : closeL (d + 1) l with
      | none => rw [hc] at h; cases h
      | some r =>
        have h : r + 2 = q + 2 := (by rw [hc] at h; simpa using h)
        obtain rfl : r = q := by omega
        rw [closeL_keep (k := k) (by omega) hc ht2]; rfl
    next h1 =>
      rw [if_neg h1]
      split at h
      next h2 =>
        rw [if_pos h2]
        split at h
        next h3 => rw [if_pos h3]; exact h
        next h3 =>
          rw [if_neg h3]
          cases hc : closeL (d - 1) l with
          | none => rw [hc] at h; cases h
          | some r =>
            have h : r + 2 = q + 2 := (by rw [hc] at h; simpa using h)
            obtain rfl : r = q := by omega
            rw [closeL_keep (k := k) (by omega) hc ht2]; rfl
      next h2 =>
        rw [if_neg h2]
        cases hc : closeL d (b :: l) with
        | none => rw [hc] at h; cases h
        | some r =>
          have h : r + 1 = q + 2 := (by rw [hc] at h; simpa using h)
          obtain rfl : r = q + 1 := by omega
          rw [closeL_keep (k := k) (l := b :: l) (l' := b :: t) (by simpa using hk) hc (by rw [List.take_succ_cons, List.take_succ_cons, ht2])]; rfl
theorem index_keep {l' l : List UInt8} {x y : UInt8} {i : Nat} (h : Lib.index l [x, y] = i) (ha : Agr (i + 2) l' l) : Lib.index l' [x, y] = i := by
  rcases Lib.index_spec l [x, y] with ⟨h1, _⟩ | ⟨o, h1, h2, h3, h4⟩
  · omega
  · obtain rfl : o = i := by omega
    have hl : o + 2 ≤ l.length := by
      have := Lib.index_room l [x, y] (by omega)
      have e : [x, y].length = 2 := rfl
      omega
    have hl' := agr_len ha hl
    have key : ∀ j, j ≤ o → Lib.occAt l' [x, y] j = Lib.occAt l [x, y] j := by
      intro j hj
      have e : ∀ m : List UInt8, Lib.occAt m [x, y] j = decide (m[j]? = some x ∧ m[j + 1]? = some y) := fun m => preB_two
      rw [e, e, ha j (by omega), ha (j + 1) (by omega)]
    exact Lib.index_first (by omega) ((key o (Nat.le_refl _)).trans h3) fun j hj => (key j (by omega)).trans (h4 j hj)
/-- What may stand behind a piece that ends there whatever else stands behind it. -/
def okNext (kd : Nat) (c : UInt8) : Prop := kd = 4 ∨ kd = 7 ∨ kd = 8 ∨ (kd = 6 ∧ blkB c.toNat = false) ∨ (kd ≠ 6 ∧ blkB c.toNat = true)
theorem blk_cases {c : UInt8} (h : blkB c.toNat = true) : c.toNat = 32 ∨ c.toNat = 9 ∨ c.toNat = 10 := by unfold blkB at h; simp at h; omega
theorem numLen_yes' {l : List UInt8} (h : l[spn digB l]? = some 95) : numLen l = spn digB l + 1 + spn alnB (l.drop (spn digB l + 1)) := by
  unfold numLen
  simp only
  rw [if_pos (by rw [preB_one]; exact decide_eq_true h)]
theorem numLen_no' {l : List UInt8} (h : l[spn digB l]? ≠ some 95) : numLen l = spn digB l := by
  unfold numLen
  simp only
  rw [if_neg (by rw [preB_one]; simpa using h)]
theorem numLen_keep {l' l : List UInt8} {n : Nat} (hn : numLen l = n) (ha : Agr n l' l) (he : ∀ c, l'[n]? = some c → l[n]? = some c ∨ blkB c.toNat = true) : numLen l' = n := by
  by_cases h95 : l[spn digB l]? = some 95
  · have h := numLen_yes' h95
    rw [hn] at h
    obtain ⟨m, hm⟩ : ∃ m, spn digB l = m := ⟨_, rfl⟩
    rw [hm] at h h95
    have hs : spn digB l' = m := spn_same hm (agr_mono ha (by omega)) (fun c hc => by
      rw [ha m (by omega), h95] at hc; injection hc with hc; subst hc; decide)
    obtain ⟨k, hk⟩ : ∃ k, spn alnB (l.drop (m + 1)) = k := ⟨_, rfl⟩
    rw [hk] at h
    have hs2 : spn alnB (l'.drop (m + 1)) = k := by
      refine spn_same hk (agr_drop (by rw [show k + (m + 1) = n by omega]; exact ha)) (fun c hc => ?_)
      rw [List.getElem?_drop, show m + 1 + k = n by omega] at hc
      rcases he c hc with h1 | h1
      · refine spn_stop (l := l.drop (m + 1)) ?_
        rw [hk, List.getElem?_drop, show m + 1 + k = n by omega]; exact h1
      · have := blk_cases h1
        unfold alnB; simp; omega
    have h95' : l'[spn digB l']? = some 95 := by rw [hs, ha m (by omega)]; exact h95
    rw [numLen_yes' h95', hs, hs2]; omega
  · have h := numLen_no' h95
    rw [hn] at h
    have hs : spn digB l' = n := spn_same h.symm ha (fun c hc => by
      rcases he c hc with h1 | h1
      · refine spn_stop (l := l) ?_; rw [← h]; exact h1
      · have := blk_cases h1
        unfold digB; simp; omega)
    rw [numLen_no', hs]
    rw [hs]
    intro hc
    rcases he 95 hc with h1 | h1
    · rw [h] at h1; exact h95 h1
    · exact absurd h1 (by decide)
theorem sgn_len (l : List UInt8) : (sgn l).length ≤ 2 := by
  have h : ∀ (xs : List (List UInt8)), (∀ t ∈ xs, t.length ≤ 2) → ∀ acc : List UInt8, acc.length ≤ 2 → (xs.foldl (fun acc t => if preB l t then t else acc) acc).length ≤ 2 := by
    intro xs
    induction xs with
    | nil => exact fun _ acc h => h
    | cons x xs ih =>
      intro hx acc h
      rw [List.foldl_cons]
      refine ih (fun t ht => hx t (List.mem_cons_of_mem _ ht)) _ ?_
      split
      · exact hx x List.mem_cons_self
      · exact h
  exact h signsL (by decide) [] (by decide)
theorem sgn_keep {l' l : List UInt8} (hne : sgn l ≠ []) (ha : Agr (sgn l).length l' l) (hll : 1 ≤ l.length) (he : ∀ c, l'[(sgn l).length]? = some c → l[(sgn l).length]? = some c ∨ blkB c.toNat = true) : (sgn l').length = (sgn l).length := by
  have h1 : 1 ≤ (sgn l).length := List.length_pos_iff.2 hne
  have hl1 : 1 ≤ l'.length := agr_len (agr_mono ha h1) hll
  obtain ⟨r1, r2, r3⟩ := sgn_ref hll
  obtain ⟨q1, q2, _⟩ := sgn_ref hl1
  by_cases hb : 2 ≤ l.length ∧ l.take 2 ∈ signsL
  · have e := r1 hb
    rw [e] at ha ⊢
    exact q1 ⟨agr_len ha hb.1, by rw [take_agr ha]; exact hb.2⟩
  · by_cases hc : l.take 1 ∈ signsL
    · have e := r2 hb hc
      rw [e] at ha he ⊢
      refine q2 ?_ (by rw [take_agr ha]; exact hc)
      rintro ⟨h2, h3⟩
      match l', h2 with
      | a :: b :: r, _ =>
        have e0 := ha 0 (by omega)
        rcases he b rfl with h4 | h4
        · match l, hll with
          | [x], _ => simp at h4
          | x :: y :: z, _ =>
            have e1 : b = y := by simpa using h4.symm
            have e2 : a = x := by simpa using e0
            subst e1 e2
            exact hb ⟨by simp, h3⟩
        · have := blk_cases h4
          rcases two_signs a b h3 with ⟨_, h⟩ | ⟨_, h⟩ | ⟨_, h⟩ | ⟨_, h⟩ | ⟨_, h⟩ <;> (subst h; revert this; decide)
    · exact absurd (r3 hb hc) hne
theorem txt_keep {l' l : List UInt8} (h : txtOk l = true) (ha : Agr (txtLen l + 2) l' l) : txtLen l' = txtLen l ∧ txtOk l' = true := by
  have h' := h
  unfold txtOk at h
  rw [Bool.and_eq_true, preB_one, decide_eq_true_eq] at h
  obtain ⟨h1, h2⟩ := h
  have hs : txtLen l' = txtLen l := by
    unfold txtLen at ha h1 ⊢
    generalize hn : spn txtB (l.drop 1) = n at ha h1 ⊢
    refine spn_same hn (agr_drop (agr_mono ha (by omega))) (fun c hc => ?_)
    rw [List.getElem?_drop, ha _ (by omega), h1] at hc
    injection hc with hc; subst hc; decide
  refine ⟨hs, ?_⟩
  unfold txtOk
  rw [hs, preB_one, ha _ (by omega), h1]
  have : (l'.drop 1).take (txtLen l) = (l.drop 1).take (txtLen l) := take_agr (agr_drop (agr_mono ha (by omega)))
  rw [this, h2]
  simp
theorem one_pre {l : List UInt8} {kd n : Nat} {x : UInt8} (hf : FirstIs l kd n) (hn : n = 1) (hx : x = 40 ∨ x = 60) (a1 : l[0]? = some x) (a2 : l[1]? = some 42) : False := by
  have hpre : preB l [x, 42] = true := by rw [preB_two0]; exact decide_eq_true ⟨a1, a2⟩
  have hbb : onB blkB l = false := by rw [onB_get, a1]; rcases hx with rfl | rfl <;> decide
  have hlt : onB letB l = false := by rw [onB_get, a1]; rcases hx with rfl | rfl <;> decide
  have hlg : onB digB l = false := by rw [onB_get, a1]; rcases hx with rfl | rfl <;> decide
  cases hf with
  | blank h => rw [hbb] at h; cases h
  | comment m h0 h hm => omega
  | pragma i h0 h1 h hi => omega
  | word h0 h1 h2 h hw => rw [hlt] at h; cases h
  | name h0 h1 h2 h hw hl => rw [hlt] at h; cases h
  | number v h0 h1 h2 h3 h hv => rw [hlg] at h; cases h
  | text h0 h1 h2 h3 h4 h ht => omega
  | sign h0 h1 h2 h3 h4 h5 h =>
    rcases hx with rfl | rfl
    · rw [h1] at hpre; cases hpre
    · rw [h2] at hpre; cases hpre
theorem one_kind {l : List UInt8} {kd n : Nat} {x : UInt8} (hf : FirstIs l kd n) (hn : n = 1) (hx : x = 40 ∨ x = 60) (a1 : l[0]? = some x) : kd ≠ 4 ∧ kd ≠ 6 ∧ kd ≠ 7 ∧ kd ≠ 8 := by
  have hbb : onB blkB l = false := by rw [onB_get, a1]; rcases hx with rfl | rfl <;> decide
  cases hf with
  | blank h => rw [hbb] at h; cases h
  | comment m h0 h hm => omega
  | pragma i h0 h1 h hi => omega
  | text h0 h1 h2 h3 h4 h ht => omega
  | word => decide
  | name => decide
  | number => decide
  | sign => decide
/-- WHAT A PIECE HANGS ON: its bytes, and that what stands behind it cannot belong to it. -/
theorem firstL_keep {l' l : List UInt8} {kd n : Nat} (h : firstL l = .ok kd n) (ht : Agr n l' l) (he : ∀ c, l'[n]? = some c → l[n]? = some c ∨ okNext kd c) : firstL l' = .ok kd n := by
  obtain ⟨_, _, hn1, hnl⟩ := firstL_ok h
  have hon : ∀ p, onB p l' = onB p l := fun p => onB_agr hn1 ht
  have hp1 : ∀ x : UInt8, preB l' [x] = preB l [x] := fun x => by rw [preB_one0, preB_one0, ht 0 (by omega)]
  -- the two signs that open a comment and a pragma
  have hp2 : ∀ x : UInt8, x = 40 ∨ x = 60 → preB l' [x, 42] = preB l [x, 42] := by
    intro x hx
    rw [preB_two0, preB_two0, ht 0 (by omega)]
    by_cases h2 : 2 ≤ n
    · rw [ht 1 (by omega)]
    · obtain rfl : n = 1 := by omega
      have e1 : ¬ (l[0]? = some x ∧ l[1]? = some 42) := fun ⟨a1, a2⟩ => one_pre (firstL_is h) rfl hx a1 a2
      cases hc : l'[1]? with
      | none => simp [e1]
      | some c =>
        rcases he c hc with h4 | h4
        · rw [h4]
        · have e2 : ¬ (l[0]? = some x ∧ some c = some 42) := by
            rintro ⟨a1, a2⟩
            injection a2 with a2
            subst a2
            have := one_kind (firstL_is h) rfl hx a1
            rcases h4 with h4 | h4 | h4 | h4 | h4
            · omega
            · omega
            · omega
            · omega
            · exact absurd h4.2 (by decide)
          rw [decide_eq_false e1, decide_eq_false e2]
  have hq1 := hp2 40 (.inl rfl)
  have hq2 := hp2 60 (.inr rfl)
  have hblk : kd ≠ 4 → kd ≠ 6 → kd ≠ 7 → kd ≠ 8 → ∀ c, l'[n]? = some c → l[n]? = some c ∨ blkB c.toNat = true := by
    intro a b c d x hx
    rcases he x hx with h1 | h1
    · exact .inl h1
    · rcases h1 with h1 | h1 | h1 | h1 | h1
      · exact absurd h1 a
      · exact absurd h1 c
      · exact absurd h1 d
      · exact absurd h1.1 b
      · exact .inr h1.2
  refine first_of ?_
  cases firstL_is h with
  | blank h0 =>
    have hs : spn blkB l' = spn blkB l := spn_same rfl ht (fun c hc => by
      rcases he c hc with h1 | h1
      · exact spn_stop h1
      · rcases h1 with h1 | h1 | h1 | h1 | h1
        · omega
        · omega
        · omega
        · exact h1.2
        · exact absurd rfl h1.1)
    rw [← hs]
    exact .blank (by rw [hon]; exact h0)
  | comment m h0 h1 hm =>
    exact .comment m (by rw [hon]; exact h0) (by rw [hq1]; exact h1) (closeL_keep (Nat.le_refl _) hm (take_agr (agr_drop (by rw [Nat.add_comm]; exact ht))))
  | pragma i h0 h1 h2 hi =>
    exact .pragma i (by rw [hon]; exact h0) (by rw [hq1]; exact h1) (by rw [hq2]; exact h2) (index_keep hi (agr_drop (by rw [Nat.add_comm]; exact ht)))
  | word h0 h1 h2 h3 hw =>
    have hs : spn alnB l' = spn alnB l := spn_same rfl ht (fun c hc => by
      rcases hblk (by decide) (by decide) (by decide) (by decide) c hc with h5 | h5
      · exact spn_stop h5
      · have := blk_cases h5
        unfold alnB; simp; omega)
    rw [← hs] at ht ⊢
    refine .word (by rw [hon]; exact h0) (by rw [hq1]; exact h1) (by rw [hq2]; exact h2) (by rw [hon]; exact h3) ?_
    rw [take_agr ht, hs]; exact hw
  | name h0 h1 h2 h3 hw hl =>
    have hs : spn alnB l' = spn alnB l := spn_same rfl ht (fun c hc => by
      rcases hblk (by decide) (by decide) (by decide) (by decide) c hc with h5 | h5
      · exact spn_stop h5
      · have := blk_cases h5
        unfold alnB; simp; omega)
    rw [← hs] at ht ⊢
    refine .name (by rw [hon]; exact h0) (by rw [hq1]; exact h1) (by rw [hq2]; exact h2) (by rw [hon]; exact h3) ?_ (by omega)
    rw [take_agr ht, hs]; exact hw
  | number v h0 h1 h2 h3 h4 hv =>
    have hs : numLen l' = numLen l := numLen_keep rfl ht (hblk (by decide) (by decide) (by decide) (by decide))
    rw [← hs] at ht ⊢
    refine .number v (by rw [hon]; exact h0) (by rw [hq1]; exact h1) (by rw [hq2]; exact h2) (by rw [hon]; exact h3) (by rw [hon]; exact h4) ?_
    rw [take_agr ht, hs]; exact hv
  | text h0 h1 h2 h3 h4 h5 h6 =>
    obtain ⟨e1, e2⟩ := txt_keep h6 ht
    rw [← e1]
    exact .text (by rw [hon]; exact h0) (by rw [hq1]; exact h1) (by rw [hq2]; exact h2) (by rw [hon]; exact h3) (by rw [hon]; exact h4) (by rw [hp1]; exact h5) e2
  | sign h0 h1 h2 h3 h4 h5 h6 =>
    have hs := sgn_keep h6 ht (by omega) (hblk (by decide) (by decide) (by decide) (by decide))
    have h1' : 1 ≤ (sgn l).length := List.length_pos_iff.2 h6
    rw [← hs]
    exact .sign (by rw [hon]; exact h0) (by rw [hq1]; exact h1) (by rw [hq2]; exact h2) (by rw [hon]; exact h3) (by rw [hon]; exact h4) (by rw [hp1]; exact h5) (by intro e; rw [e] at hs; simp at hs; omega)
end Go.Proofs.YteknngncnbfbnaaGreatDoor
