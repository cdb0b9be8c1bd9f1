/- Pieces of a text as a relation: alone, in Bare, exchanged, edited. -/
import Derived.Test.YteknngncnbfbnaaGreatDoorMc
import Derived.Test.YteknngncnbfbnaaGreatDoorAg
import Derived.Lib.IndexMore
import Derived.KernelRfl
namespace Go.Proofs.YteknngncnbfbnaaGreatDoor
open Go Go.RowKit Go.Shelf
theorem firstL_bad {l : List UInt8} {x : Nat} (h : firstL l = .bad x) : 10 ≤ x ∧ x ≤ 14 := by
  rw [firstL_eq] at h
  split at h
  · cases h
  · split at h
    · split at h
      · injection h with h; omega
      · cases h
    · split at h
      · split at h
        · injection h with h; omega
        · cases h
      · split at h
        · split at h
          · cases h
          · split at h
            · injection h with h; omega
            · cases h
        · split at h
          · split at h
            · injection h with h; omega
            · cases h
          · split at h
            · split at h
              · cases h
              · injection h with h; omega
            · split at h
              · injection h with h; omega
              · cases h
/-- The pieces of which a text is made. -/
inductive Pcs : List UInt8 → List Bit → Prop where
  | nil : Pcs [] []
  | cons {l : List UInt8} {kd n : Nat} {xs : List Bit} (h : firstL l = .ok kd n) (ht : Pcs (l.drop n) xs) : Pcs l ((kd, mkS (l.take n)) :: xs)
/-- The texts of pieces, one behind the other. -/
def cat (xs : List Bit) : List UInt8 := xs.flatMap fun x => bs x.2
theorem cat_cons (x : Bit) (xs : List Bit) : cat (x :: xs) = bs x.2 ++ cat xs := by simp [cat]
theorem cat_app (xs ys : List Bit) : cat (xs ++ ys) = cat xs ++ cat ys := by simp [cat]
theorem pcs_cat {l : List UInt8} {xs : List Bit} (h : Pcs l xs) : cat xs = l := by
  induction h with
  | nil => rfl
  | cons h ht ih => rw [cat_cons, ih, bs_mkS, List.take_append_drop]
theorem pcs_inv {l : List UInt8} {x : Bit} {xs : List Bit} (h : Pcs l (x :: xs)) : l = bs x.2 ++ cat xs ∧ firstL l = .ok x.1 (bs x.2).length ∧ Pcs (cat xs) xs := by
  have hc := pcs_cat h
  generalize hy : x :: xs = ys at h
  cases h with
  | nil => cases hy
  | @cons l kd n zs h ht =>
    injection hy with h1 h2
    subst h1 h2
    obtain ⟨_, _, _, hn⟩ := firstL_ok h
    refine ⟨by rw [← cat_cons]; exact hc.symm, ?_, ?_⟩
    · show firstL l = .ok kd (bs (mkS (l.take n))).length
      rw [bs_mkS, List.length_take, Nat.min_eq_left hn]; exact h
    · rw [pcs_cat ht]; exact ht
theorem pcs_mk {x : Bit} {xs : List Bit} (h : firstL (bs x.2 ++ cat xs) = .ok x.1 (bs x.2).length) (ht : Pcs (cat xs) xs) : Pcs (bs x.2 ++ cat xs) (x :: xs) := by
  have e : x = (x.1, mkS ((bs x.2 ++ cat xs).take (bs x.2).length)) := by
    rw [List.take_left]
    have : mkS (bs x.2) = x.2 := bs_ext (bs_mkS _)
    rw [this]
  have hd : (bs x.2 ++ cat xs).drop (bs x.2).length = cat xs := List.drop_left
  have := Pcs.cons h (by rw [hd]; exact ht)
  rw [← e] at this
  exact this
theorem goL_pcs : ∀ {f : Nat} {l : List UInt8}, l.length ≤ f → ∀ {xs : List Bit} {m : Nat}, goL f l = (xs, m, none) → Pcs l xs
  | 0, l, hl, xs, m, h => by
    have : l = [] := List.length_eq_zero_iff.1 (by omega)
    subst this
    injection h with h1 _
    subst h1; exact .nil
  | f + 1, [], _, xs, m, h => by injection h with h1 _; subst h1; exact .nil
  | f + 1, c :: l, hl, xs, m, h => by
    unfold goL at h
    cases hf : firstL (c :: l) with
    | bad x => rw [hf] at h; injection h with _ h; injection h with _ h; cases h
    | ok kd n =>
      rw [hf] at h
      obtain ⟨_, _, h1, h2⟩ := firstL_ok hf
      injection h with e1 h
      injection h with e2 e3
      have hg : goL f ((c :: l).drop n) = ((goL f ((c :: l).drop n)).1, (goL f ((c :: l).drop n)).2.1, none) := by rw [← e3]
      have hd : ((c :: l).drop n).length ≤ f := by rw [List.length_drop]; simp at hl ⊢; omega
      rw [← e1]
      exact .cons hf (goL_pcs hd hg)
theorem pcs_goL {l : List UInt8} {xs : List Bit} (h : Pcs l xs) : ∀ f, l.length ≤ f → goL f l = (xs, l.length, none) := by
  induction h with
  | nil => intro f _; cases f <;> rfl
  | @cons l kd n xs hf ht ih =>
    intro f hl
    obtain ⟨_, _, h1, h2⟩ := firstL_ok hf
    cases l with
    | nil => simp at h2; omega
    | cons c l =>
      obtain ⟨g, rfl⟩ : ∃ g, f = g + 1 := ⟨f - 1, by simp at hl; omega⟩
      have hi := ih g (by rw [List.length_drop]; simp at hl ⊢; omega)
      conv => lhs; unfold goL
      rw [hf]
      simp only
      rw [hi]
      have : n + ((c :: l).drop n).length = (c :: l).length := by rw [List.length_drop]; omega
      rw [this]
theorem pcsL_ok {l : List UInt8} {xs : List Bit} {z : Nat} (h : pcsL l = (xs, 0, z)) : Pcs l xs ∧ l.length ≤ 20000 ∧ z = 0 := by
  unfold pcsL at h
  split at h
  · injection h with _ h; injection h with h _; cases h
  next hl =>
    split at h
    next ys m hg =>
      injection h with h1 h2; injection h2 with h2 h3
      subst h1
      exact ⟨goL_pcs (Nat.le_refl _) hg, by omega, h3.symm⟩
    next ys m x hg =>
      exfalso
      injection h with h1 h2; injection h2 with h2 h3
      subst h2
      have key : ∀ (f : Nat) (l : List UInt8) (ys : List Bit) (m : Nat), goL f l = (ys, m, some 0) → False := by
        intro f
        induction f with
        | zero => intro l ys m h; injection h with _ h; injection h with _ h; cases h
        | succ f ih =>
          intro l ys m h
          cases l with
          | nil => injection h with _ h; injection h with _ h; cases h
          | cons c l =>
            unfold goL at h
            cases hf : firstL (c :: l) with
            | bad x =>
              rw [hf] at h; injection h with _ h; injection h with _ h; injection h with h
              have := firstL_bad hf; omega
            | ok kd n =>
              rw [hf] at h
              injection h with _ h
              injection h with _ e3
              exact ih ((c :: l).drop n) _ _ (by rw [← e3])
      exact key _ _ _ _ hg
theorem pcs_pcsL {l : List UInt8} {xs : List Bit} (h : Pcs l xs) (hl : l.length ≤ 20000) : pcsL l = (xs, 0, 0) := by
  unfold pcsL
  rw [if_neg (by omega), pcs_goL h _ (Nat.le_refl _)]
theorem pcs_kinds {l : List UInt8} {xs : List Bit} (h : Pcs l xs) : ∀ x ∈ xs, 1 ≤ x.1 ∧ x.1 ≤ 8 ∧ bs x.2 ≠ [] := by
  induction h with
  | nil => intro x hx; cases hx
  | @cons l kd n xs hf ht ih =>
    intro x hx
    rcases List.mem_cons.1 hx with rfl | hx
    · obtain ⟨h1, h2, h3, h4⟩ := firstL_ok hf
      refine ⟨h1, h2, fun e => ?_⟩
      have := congrArg List.length e
      rw [bs_mkS, List.length_take, List.length_nil] at this
      omega
    · exact ih x hx
/-- EACH PIECE, ALONE, IS A SOURCE WITH JUST THIS PIECE. -/
theorem pcs_alone {l : List UInt8} {xs : List Bit} (h : Pcs l xs) : ∀ x ∈ xs, Pcs (bs x.2) [x] := by
  induction h with
  | nil => intro x hx; cases hx
  | @cons l kd n xs hf ht ih =>
    intro x hx
    rcases List.mem_cons.1 hx with rfl | hx
    · obtain ⟨h1, h2, h3, h4⟩ := firstL_ok hf
      have hl : (l.take n).length = n := by rw [List.length_take]; omega
      have hk : firstL (l.take n) = .ok kd n := firstL_keep hf (fun j hj => by rw [List.getElem?_take, if_pos hj]) (fun c hc => by
        rw [List.getElem?_eq_none (by omega)] at hc; cases hc)
      have := pcs_mk (x := (kd, mkS (l.take n))) (xs := []) (by
        show firstL (bs (mkS (l.take n)) ++ []) = .ok kd (bs (mkS (l.take n))).length
        rw [bs_mkS, List.append_nil, hl]; exact hk) .nil
      have e : cat ([] : List Bit) = [] := rfl
      rw [e, List.append_nil] at this
      exact this
    · exact ih x hx
theorem first_blank {l : List UInt8} {n : Nat} (h : firstL l = .ok 6 n) : n = spn blkB l ∧ onB blkB l = true := by
  have hf := firstL_is h
  generalize hk : (6 : Nat) = kd at hf
  cases hf with
  | blank hb => exact ⟨rfl, hb⟩
  | _ => cases hk
theorem blank_stop {l : List UInt8} {n : Nat} (h : firstL l = .ok 6 n) : onB blkB (l.drop n) = false := by
  obtain ⟨rfl, _⟩ := first_blank h
  rw [onB_get, List.getElem?_drop, Nat.add_zero]
  cases hc : l[spn blkB l]? with
  | none => rfl
  | some c => exact spn_stop hc
/-- No two blanks stand behind each other. -/
theorem pcs_blanks {l : List UInt8} {x y : Bit} {xs : List Bit} (h : Pcs l (x :: y :: xs)) : ¬ (x.1 = 6 ∧ y.1 = 6) := by
  rintro ⟨h1, h2⟩
  obtain ⟨e, hf, ht⟩ := pcs_inv h
  obtain ⟨_, hf2, _⟩ := pcs_inv ht
  rw [h1] at hf
  rw [h2] at hf2
  have h3 := blank_stop hf
  rw [e, List.drop_left] at h3
  have := (first_blank hf2).2
  rw [h3] at this
  cases this
theorem okNext_blank {kd : Nat} {c : UInt8} (h : kd ≠ 6) (hc : blkB c.toNat = true) : okNext kd c := .inr (.inr (.inr (.inr ⟨h, hc⟩)))
/-- A piece stays if what stands behind it begins as before, or with what cannot belong to it. -/
theorem first_swap {t m m' : List UInt8} {kd : Nat} (h : firstL (t ++ m) = .ok kd t.length) (he : ∀ c, m'[0]? = some c → m[0]? = some c ∨ okNext kd c) : firstL (t ++ m') = .ok kd t.length := by
  refine firstL_keep h (fun j hj => by rw [List.getElem?_append_left hj, List.getElem?_append_left hj]) (fun c hc => ?_)
  rw [List.getElem?_append_right (Nat.le_refl _), Nat.sub_self] at hc
  rcases he c hc with h1 | h1
  · left
    rw [List.getElem?_append_right (Nat.le_refl _), Nat.sub_self]; exact h1
  · exact .inr h1
/-- What a piece becomes in Bare. -/
def barB (x : Bit) : List UInt8 := if x.1 = 7 ∨ x.1 = 8 then blankedL (bs x.2) else bs x.2
theorem bareL_cons (x : Bit) (xs : List Bit) : bareL (x :: xs) = barB x ++ bareL xs := by unfold bareL barB; rw [List.flatMap_cons]
def mrg (q : List UInt8) (ys : List Bit) : List Bit :=
  match ys with
  | [] => [(6, mkS q)]
  | y :: r => if y.1 = 6 then (6, mkS (q ++ bs y.2)) :: r else (6, mkS q) :: y :: r
/-- The pieces of what Bare makes. -/
def bareP : List Bit → List Bit
  | [] => []
  | x :: xs => if x.1 ≤ 5 then x :: bareP xs else mrg (barB x) (bareP xs)
theorem spn_app {p : Int → Bool} : ∀ {q m : List UInt8}, allB p q = true → spn p (q ++ m) = q.length + spn p m
  | [], m, _ => by simp
  | c :: q, m, h => by
    have hd : p c.toNat = true ∧ allB p q = true := by unfold allB at h ⊢; simpa using h
    show (if p c.toNat then spn p (q ++ m) + 1 else 0) = _
    rw [if_pos hd.1, spn_app hd.2, List.length_cons]; omega
theorem onB_app {p : Int → Bool} {q m : List UInt8} (hq : q ≠ []) (h : allB p q = true) : onB p (q ++ m) = true := by
  cases q with
  | nil => exact absurd rfl hq
  | cons c q =>
    have hd : p c.toNat = true ∧ allB p q = true := by unfold allB at h ⊢; simpa using h
    exact hd.1
theorem spn_none {p : Int → Bool} {m : List UInt8} (h : onB p m = false) : spn p m = 0 := by
  cases m with
  | nil => rfl
  | cons c m => have hc : p c.toNat = false := h
                show (if p c.toNat then spn p m + 1 else 0) = 0
                rw [if_neg (by rw [hc]; decide)]
theorem first_blk {l : List UInt8} (h : onB blkB l = true) : firstL l = .ok 6 (spn blkB l) := first_of (.blank h)
theorem pcs_mrg {q m : List UInt8} {ys : List Bit} (hq : q ≠ []) (ha : allB blkB q = true) (h : Pcs m ys) : Pcs (q ++ m) (mrg q ys) := by
  have hon := onB_app (m := m) hq ha
  have hf := first_blk hon
  rw [spn_app ha] at hf
  have hm := pcs_cat h
  cases ys with
  | nil =>
    have e : m = [] := by rw [← hm]; rfl
    subst e
    have e : bs ((6, mkS q) : Bit).2 = q := bs_mkS q
    have := pcs_mk (x := (6, mkS q)) (xs := []) (by
      rw [e]
      exact hf) .nil
    rw [e] at this
    exact this
  | cons y r =>
    obtain ⟨e, hy, hr⟩ := pcs_inv h
    by_cases h6 : y.1 = 6
    · have e2 : mrg q (y :: r) = (6, mkS (q ++ bs y.2)) :: r := if_pos h6
      rw [e2]
      rw [h6] at hy
      obtain ⟨hn, _⟩ := first_blank hy
      rw [← hn] at hf
      have e3 : q ++ m = bs (mkS (q ++ bs y.2)) ++ cat r := by rw [bs_mkS, List.append_assoc, ← e]
      rw [e3] at hf ⊢
      refine pcs_mk (x := (6, mkS (q ++ bs y.2))) ?_ hr
      show firstL (bs (mkS (q ++ bs y.2)) ++ cat r) = .ok 6 (bs (mkS (q ++ bs y.2))).length
      rw [hf, bs_mkS, List.length_append]
    · have e2 : mrg q (y :: r) = (6, mkS q) :: y :: r := if_neg h6
      rw [e2]
      have hnb : onB blkB m = false := by
        cases hb : onB blkB m with
        | false => rfl
        | true =>
          have := first_blk hb
          rw [hy] at this
          injection this with h1 _
          exact absurd h1 h6
      rw [spn_none hnb, Nat.add_zero] at hf
      have e3 : q ++ m = bs (mkS q) ++ cat (y :: r) := by rw [bs_mkS, hm]
      rw [e3] at hf ⊢
      refine pcs_mk (x := (6, mkS q)) ?_ (by rw [hm]; exact h)
      show firstL (bs (mkS q) ++ cat (y :: r)) = .ok 6 (bs (mkS q)).length
      rw [hf, bs_mkS]
theorem blk8_blk (c : UInt8) : blkB (blk8 c).toNat = true := by unfold blk8; split <;> decide
theorem blanked_all (l : List UInt8) : allB blkB (blankedL l) = true := by
  unfold allB blankedL
  rw [List.all_map, List.all_eq_true]
  intro c _
  exact blk8_blk c
/-- The first byte of what Bare makes of pieces: as it was, or a blank. -/
theorem bare_head {l : List UInt8} {xs : List Bit} (h : Pcs l xs) : ∀ c, (bareL xs)[0]? = some c → (cat xs)[0]? = some c ∨ blkB c.toNat = true := by
  cases xs with
  | nil => intro c hc; cases hc
  | cons x xs =>
    intro c hc
    have hne := (pcs_kinds h x List.mem_cons_self).2.2
    rw [bareL_cons] at hc
    rw [cat_cons]
    have hpos : 0 < (bs x.2).length := List.length_pos_iff.2 hne
    unfold barB at hc
    split at hc
    · right
      have hl : 0 < (blankedL (bs x.2)).length := by unfold blankedL; rw [List.length_map]; exact hpos
      rw [List.getElem?_append_left hl, List.getElem?_eq_getElem hl] at hc
      injection hc with hc
      have := List.all_eq_true.1 (blanked_all (bs x.2)) c (by rw [← hc]; exact List.getElem_mem hl)
      exact this
    · left
      rw [List.getElem?_append_left hpos] at hc ⊢
      exact hc
theorem bar_blank {l : List UInt8} {x : Bit} {xs : List Bit} (h : Pcs l (x :: xs)) (h5 : ¬ x.1 ≤ 5) : barB x ≠ [] ∧ allB blkB (barB x) = true := by
  obtain ⟨h1, h2, hne⟩ := pcs_kinds h x List.mem_cons_self
  unfold barB
  by_cases h7 : x.1 = 7 ∨ x.1 = 8
  · rw [if_pos h7]
    refine ⟨fun e => hne ?_, blanked_all _⟩
    unfold blankedL at e
    exact List.map_eq_nil_iff.1 e
  · rw [if_neg h7]
    refine ⟨hne, ?_⟩
    have h6 : x.1 = 6 := by omega
    obtain ⟨e, hf, _⟩ := pcs_inv h
    rw [h6] at hf
    obtain ⟨hn, _⟩ := first_blank hf
    unfold allB
    rw [List.all_eq_true]
    intro c hc
    obtain ⟨j, hj, ec⟩ := List.mem_iff_getElem.1 hc
    refine spn_bytes (l := l) (j := j) (by omega) c ?_
    rw [e, List.getElem?_append_left hj, List.getElem?_eq_getElem hj, ec]
theorem bare_pcs {l : List UInt8} {xs : List Bit} (h : Pcs l xs) : Pcs (bareL xs) (bareP xs) := by
  induction xs generalizing l with
  | nil => exact .nil
  | cons x xs ih =>
    obtain ⟨e, hf, ht⟩ := pcs_inv h
    have ih := ih ht
    rw [bareL_cons]
    by_cases h5 : x.1 ≤ 5
    · have e1 : bareP (x :: xs) = x :: bareP xs := if_pos h5
      have e2 : barB x = bs x.2 := by unfold barB; rw [if_neg (by omega)]
      have e3 := pcs_cat ih
      rw [e1, e2, ← e3]
      refine pcs_mk ?_ (by rw [e3]; exact ih)
      rw [e] at hf
      refine first_swap hf (fun c hc => ?_)
      rw [e3] at hc
      rcases bare_head ht c hc with h1 | h1
      · exact .inl h1
      · exact .inr (okNext_blank (by omega) h1)
    · have e1 : bareP (x :: xs) = mrg (barB x) (bareP xs) := if_neg h5
      rw [e1]
      obtain ⟨b1, b2⟩ := bar_blank h h5
      exact pcs_mrg b1 b2 ih
theorem mrg_kinds {q : List UInt8} {ys : List Bit} (h : ∀ y ∈ ys, y.1 ≤ 6) : ∀ y ∈ mrg q ys, y.1 ≤ 6 := by
  intro y hy
  unfold mrg at hy
  split at hy
  · simp at hy; subst hy; exact Nat.le_refl _
  · split at hy
    · rcases List.mem_cons.1 hy with rfl | hy
      · exact Nat.le_refl _
      · exact h y (List.mem_cons_of_mem _ hy)
    · rcases List.mem_cons.1 hy with rfl | hy
      · exact Nat.le_refl _
      · exact h y hy
theorem bareP_kinds : ∀ (xs : List Bit), ∀ y ∈ bareP xs, y.1 ≤ 6
  | [], y, hy => by cases hy
  | x :: xs, y, hy => by
    unfold bareP at hy
    split at hy
    · rcases List.mem_cons.1 hy with rfl | hy
      · omega
      · exact bareP_kinds xs y hy
    · exact mrg_kinds (bareP_kinds xs) y hy
theorem bare_same {ys : List Bit} (h : ∀ y ∈ ys, y.1 ≤ 6) : bareL ys = cat ys := by
  induction ys with
  | nil => rfl
  | cons y ys ih =>
    have h1 := h y List.mem_cons_self
    rw [bareL_cons, cat_cons, ih fun z hz => h z (List.mem_cons_of_mem _ hz)]
    unfold barB
    rw [if_neg (by omega)]
theorem nl_app (a b : List UInt8) : nl (a ++ b) = nl a + nl b := by unfold nl; rw [List.countP_append]
theorem nl_blanked (l : List UInt8) : nl (blankedL l) = nl l := by
  unfold nl blankedL
  rw [List.countP_map]
  congr 1
  funext c
  show (blk8 c == 10) = (c == 10)
  unfold blk8
  by_cases h : c = 10
  · rw [if_pos h, h]
  · rw [if_neg h, Bool.eq_iff_iff]
    simp [h]
theorem nl_bar (x : Bit) : nl (barB x) = nl (bs x.2) := by
  unfold barB
  split
  · exact nl_blanked _
  · rfl
theorem toks_mrg (q : List UInt8) (ys : List Bit) (L : Nat) : toksL L (mrg q ys) = toksL (L + nl q) ys := by
  unfold mrg
  split
  · rfl
  · split
    next y r h6 =>
      have h6' : ¬ y.1 ≤ 5 := by omega
      show (if (6 : Nat) ≤ 5 then _ else toksL (L + nl (bs (mkS (q ++ bs y.2)))) r) = (if y.1 ≤ 5 then _ else toksL (L + nl q + nl (bs y.2)) r)
      rw [if_neg (by decide), if_neg h6', bs_mkS, nl_app, Nat.add_assoc]
    next y r h6 =>
      show (if (6 : Nat) ≤ 5 then _ else toksL (L + nl (bs (mkS q))) (y :: r)) = _
      rw [if_neg (by decide), bs_mkS]
theorem toks_bare : ∀ (xs : List Bit) (L : Nat), toksL L (bareP xs) = toksL L xs
  | [], _ => rfl
  | x :: xs, L => by
    by_cases h5 : x.1 ≤ 5
    · have e1 : bareP (x :: xs) = x :: bareP xs := if_pos h5
      rw [e1]
      show (if x.1 ≤ 5 then (x.1, x.2, L) :: toksL (L + nl (bs x.2)) (bareP xs) else _) = (if x.1 ≤ 5 then (x.1, x.2, L) :: toksL (L + nl (bs x.2)) xs else _)
      rw [if_pos h5, if_pos h5, toks_bare xs]
    · have e1 : bareP (x :: xs) = mrg (barB x) (bareP xs) := if_neg h5
      rw [e1, toks_mrg, toks_bare xs, nl_bar]
      show _ = (if x.1 ≤ 5 then _ else toksL (L + nl (bs x.2)) xs)
      rw [if_neg h5]
theorem bareL_len (xs : List Bit) : (bareL xs).length = (cat xs).length := by
  induction xs with
  | nil => rfl
  | cons x xs ih =>
    rw [bareL_cons, cat_cons, List.length_append, List.length_append, ih]
    unfold barB blankedL
    split
    · rw [List.length_map]
    · rfl
/-- WHAT SCANNING BARE's TEXT GIVES. -/
theorem bare_all {l : List UInt8} {xs : List Bit} (h : pcsL l = (xs, 0, 0)) :
    (bareL xs).length = l.length ∧ pcsL (bareL xs) = (bareP xs, 0, 0) ∧ (∀ y ∈ bareP xs, y.1 ≤ 6) ∧ bareL (bareP xs) = bareL xs ∧ toksL 1 (bareP xs) = toksL 1 xs := by
  obtain ⟨hp, hl, _⟩ := pcsL_ok h
  have hb := bare_pcs hp
  have hlen : (bareL xs).length = l.length := by rw [bareL_len, pcs_cat hp]
  have hk := bareP_kinds xs
  exact ⟨hlen, pcs_pcsL hb (by omega), hk, by rw [bare_same hk, pcs_cat hb], toks_bare xs 1⟩
/-! A piece exchanged for another one of its kind -/
theorem pcs_after {p : Bit} {r r' : List Bit} {l : List UInt8} (h : Pcs l (p :: r)) (h' : Pcs (cat r') r') (he : ∀ c, (cat r')[0]? = some c → (cat r)[0]? = some c ∨ okNext p.1 c) : Pcs (bs p.2 ++ cat r') (p :: r') := by
  obtain ⟨e, hf, _⟩ := pcs_inv h
  rw [e] at hf
  exact pcs_mk (first_swap hf he) h'
theorem cat_head {x : Bit} {xs : List Bit} (h : bs x.2 ≠ []) : (cat (x :: xs))[0]? = (bs x.2)[0]? := by
  rw [cat_cons, List.getElem?_append_left (List.length_pos_iff.2 h)]
theorem first_open {t m : List UInt8} {kd : Nat} (h : firstL (t ++ m) = .ok kd t.length) (hk : kd = 7 ∨ kd = 8) : t[0]? = some (if kd = 7 then 40 else 60) := by
  obtain ⟨_, _, hn, _⟩ := firstL_ok h
  have hpos : 0 < t.length := by omega
  have hf := firstL_is h
  generalize hN : t.length = N at hf
  cases hf with
  | comment m h0 h1 hm =>
    rw [preB_two0, decide_eq_true_eq] at h1
    rw [List.getElem?_append_left hpos] at h1
    rw [h1.1]; rfl
  | pragma i h0 h1 h2 hi =>
    rw [preB_two0, decide_eq_true_eq] at h2
    rw [List.getElem?_append_left hpos] at h2
    rw [h2.1]; rfl
  | _ => rcases hk with h | h <;> cases h
/-- EXCHANGED: all other pieces stay. -/
theorem pcs_exchange {x y : Bit} {m : List UInt8} (hxy : y.1 = x.1) (h6 : 6 ≤ x.1) (hy : Pcs m [y]) : ∀ {pre suf : List Bit} {l : List UInt8}, Pcs l (pre ++ x :: suf) → Pcs (cat (pre ++ y :: suf)) (pre ++ y :: suf)
  | [], suf, l, h => by
    obtain ⟨e, hf, ht⟩ := pcs_inv h
    obtain ⟨e2, hf2, _⟩ := pcs_inv hy
    have e3 : cat ([] : List Bit) = [] := rfl
    rw [e3] at e2
    have hk := pcs_kinds h x List.mem_cons_self
    rw [List.nil_append, cat_cons]
    rw [e2] at hf2
    refine pcs_mk (first_swap hf2 (fun c hc => .inr ?_)) ht
    rw [hxy]
    rcases (show x.1 = 6 ∨ x.1 = 7 ∨ x.1 = 8 by omega) with h1 | h1 | h1
    · refine .inr (.inr (.inr (.inl ⟨h1, ?_⟩)))
      rw [h1] at hf
      have := blank_stop hf
      rw [e, List.drop_left, onB_get, hc] at this
      exact this
    · exact .inr (.inl h1)
    · exact .inr (.inr (.inl h1))
  | [p], suf, l, h => by
    have hr : Pcs (cat (x :: suf)) (x :: suf) := (pcs_inv h).2.2
    have ih := pcs_exchange hxy h6 hy (pre := []) hr
    have hkx := pcs_kinds hr x List.mem_cons_self
    have hky := pcs_kinds hy y List.mem_cons_self
    show Pcs (cat (p :: y :: suf)) (p :: y :: suf)
    rw [cat_cons]
    refine pcs_after h ih (fun c hc => ?_)
    rw [cat_head hky.2.2] at hc
    have hfx := (pcs_inv hr).2.1
    rw [cat_cons] at hfx
    obtain ⟨e2, hf2, _⟩ := pcs_inv hy
    rw [e2] at hf2
    by_cases h1 : x.1 = 6
    · right
      refine okNext_blank (fun e => pcs_blanks h ⟨e, h1⟩) ?_
      rw [hxy, h1] at hf2
      have := (first_blank hf2).2
      rw [onB_get, List.getElem?_append_left (List.length_pos_iff.2 hky.2.2), hc] at this
      exact this
    · left
      have h78 : x.1 = 7 ∨ x.1 = 8 := by omega
      show (cat (x :: suf))[0]? = some c
      rw [cat_head hkx.2.2, first_open hfx h78]
      rw [hxy] at hf2
      rw [first_open hf2 h78] at hc
      exact hc
  | p :: q :: pre, suf, l, h => by
    have hr : Pcs (cat (q :: pre ++ x :: suf)) (q :: pre ++ x :: suf) := (pcs_inv h).2.2
    have ih := pcs_exchange hxy h6 hy (pre := q :: pre) hr
    have hkq := pcs_kinds hr q List.mem_cons_self
    show Pcs (cat (p :: (q :: pre ++ y :: suf))) (p :: (q :: pre ++ y :: suf))
    rw [cat_cons]
    refine pcs_after h ih (fun c hc => .inl ?_)
    have e1 : cat (q :: pre ++ y :: suf) = cat (q :: (pre ++ y :: suf)) := rfl
    have e2 : cat (q :: pre ++ x :: suf) = cat (q :: (pre ++ x :: suf)) := rfl
    rw [e1, cat_head hkq.2.2] at hc
    show (cat (q :: pre ++ x :: suf))[0]? = some c
    rw [e2, cat_head hkq.2.2]; exact hc
/-! Edits -/
/-- PIECES THAT END AHEAD OF WHAT IS EDITED STAY. -/
theorem cpf_local {l l' : List UInt8} {a b : List Bit} (h : Pcs l a) (h' : Pcs l' b) {m : Nat} (hm : Agr m l' l) : ∀ k, k < a.length → (cat (a.take (k + 1))).length < m → k < cpf a b := by
  induction h generalizing l' b m with
  | nil => intro k hk; exact absurd hk (Nat.not_lt_zero _)
  | @cons l kd n xs hf ht ih =>
    intro k hk hlt
    obtain ⟨_, _, h1, h2⟩ := firstL_ok hf
    have hcl : (bs (mkS (l.take n))).length = n := by rw [bs_mkS, List.length_take]; omega
    rw [List.take_succ_cons, cat_cons, List.length_append] at hlt
    have hcl2 : (bs ((kd, mkS (l.take n)) : Bit).2).length = n := hcl
    rw [hcl2] at hlt
    have hk' : firstL l' = .ok kd n := firstL_keep hf (agr_mono hm (by omega)) (fun c hc => .inl (by rw [hm n (by omega)] at hc; exact hc))
    cases h' with
    | nil =>
      have := (firstL_ok hk').2.2.2
      simp at this; omega
    | @cons l' kd' n' ys hf' ht' =>
      rw [hk'] at hf'
      injection hf' with e1 e2
      subst e1 e2
      have e3 : l'.take n = l.take n := take_agr (agr_mono hm (by omega))
      rw [e3]
      have e4 : cpf ((kd, mkS (l.take n)) :: xs) ((kd, mkS (l.take n)) :: ys) = cpf xs ys + 1 := if_pos rfl
      rw [e4]
      cases k with
      | zero => omega
      | succ k =>
        have := ih ht' (m := m - n) (agr_drop (by rw [show m - n + n = m by omega]; exact hm)) k (by simpa using hk) (by omega)
        omega
theorem pcs_det {l : List UInt8} {a b : List Bit} (h : Pcs l a) (h' : Pcs l b) : a = b := by
  have h1 := pcs_goL h _ (Nat.le_refl _)
  have h2 := pcs_goL h' _ (Nat.le_refl _)
  rw [h1] at h2
  injection h2
theorem pcs_drop {l : List UInt8} {a : List Bit} (h : Pcs l a) : ∀ k, Pcs (cat (a.drop k)) (a.drop k) := by
  induction h with
  | nil => intro k; rw [List.drop_nil]; exact .nil
  | @cons l kd n xs hf ht ih =>
    intro k
    cases k with
    | zero => have := Pcs.cons hf ht
              rw [List.drop_zero, pcs_cat this]; exact this
    | succ k => exact ih k
theorem cpf_refl_app : ∀ (u : List Bit) (x y : List Bit), u.length ≤ cpf (u ++ x) (u ++ y)
  | [], _, _ => Nat.zero_le _
  | c :: u, x, y => by
    have e : cpf (c :: u ++ x) (c :: u ++ y) = cpf (u ++ x) (u ++ y) + 1 := if_pos rfl
    have := cpf_refl_app u x y
    rw [e, List.length_cons]; omega
/-- PIECES BEHIND: if pieces of both begin as many bytes ahead of the end, behind what is edited, this one and all behind it stay. -/
theorem last_local {l l' : List UInt8} {a b : List Bit} (h : Pcs l a) (h' : Pcs l' b) {k j r : Nat} (hr : (cat (a.drop k)).length = r) (hr' : (cat (b.drop j)).length = r)
    (hs : l.drop (l.length - r) = l'.drop (l'.length - r)) (h1 : a.length - k ≤ min a.length b.length - cpf a b) : a.length - k ≤ lastR a b := by
  have ea : l.drop (l.length - r) = cat (a.drop k) := by
    have e : l = cat (a.take k) ++ cat (a.drop k) := by rw [← cat_app, List.take_append_drop, pcs_cat h]
    have el := congrArg List.length e
    rw [List.length_append] at el
    conv => lhs; rw [e]
    rw [show (cat (a.take k) ++ cat (a.drop k)).length = l.length by rw [← e], show l.length - r = (cat (a.take k)).length by omega, List.drop_left]
  have eb : l'.drop (l'.length - r) = cat (b.drop j) := by
    have e : l' = cat (b.take j) ++ cat (b.drop j) := by rw [← cat_app, List.take_append_drop, pcs_cat h']
    have el := congrArg List.length e
    rw [List.length_append] at el
    conv => lhs; rw [e]
    rw [show (cat (b.take j) ++ cat (b.drop j)).length = l'.length by rw [← e], show l'.length - r = (cat (b.take j)).length by omega, List.drop_left]
  have hab : a.drop k = b.drop j := by
    refine pcs_det (pcs_drop h k) ?_
    rw [← ea, hs, eb]
    exact pcs_drop h' j
  have hlen : (a.drop k).length = a.length - k := List.length_drop
  unfold lastR firstR
  have e1 : a.reverse = (a.drop k).reverse ++ (a.take k).reverse := by rw [← List.reverse_append, List.take_append_drop]
  have e2 : b.reverse = (a.drop k).reverse ++ (b.take j).reverse := by rw [hab, ← List.reverse_append, List.take_append_drop]
  rw [e1, e2, List.take_append, List.take_of_length_le (by rw [List.length_reverse, hlen]; exact h1)]
  have := cpf_refl_app (a.drop k).reverse ((a.take k).reverse.take (min a.length b.length - cpf a b - (a.drop k).reverse.length)) (b.take j).reverse
  have e5 : (a.drop k).reverse.length = a.length - k := by rw [List.length_reverse, hlen]
  rw [e5] at this ⊢
  exact this
end Go.Proofs.YteknngncnbfbnaaGreatDoor
