/- Lines and columns: Spot and Place are inverse. -/
import Derived.Test.YteknngncnbfbnaaGreatDoorBr
import Derived.Lib.IndexMore
import Derived.Lib.LastIndexByte
import Derived.Lib.Split
import Derived.KernelRfl
namespace Go.Proofs.YteknngncnbfbnaaGreatDoor
open Go Go.RowKit Go.Shelf
/-- The lines of a text. -/
def lns : List UInt8 → List (List UInt8)
  | [] => [[]]
  | c :: l => if c = 10 then [] :: lns l else ((c :: (lns l).headD []) :: (lns l).tail)
theorem lns_ne (l : List UInt8) : lns l ≠ [] := by cases l with
  | nil => simp [lns]
  | cons c l => unfold lns; split <;> simp
theorem lns_cons (l : List UInt8) : ∃ a r, lns l = a :: r := by
  cases h : lns l with
  | nil => exact absurd h (lns_ne l)
  | cons a r => exact ⟨a, r, rfl⟩
theorem lns_lf (l : List UInt8) : lns (10 :: l) = [] :: lns l := by unfold lns; rw [if_pos rfl]; cases l <;> rfl
theorem lns_other {c : UInt8} (h : c ≠ 10) {l a : List UInt8} {r : List (List UInt8)} (e : lns l = a :: r) : lns (c :: l) = (c :: a) :: r := by
  conv => lhs; unfold lns
  rw [if_neg h, e]; rfl
theorem lns_none : ∀ {l : List UInt8}, 10 ∉ l → lns l = [l]
  | [], _ => rfl
  | c :: l, h => by
    have h1 : c ≠ 10 := fun e => h (by rw [e]; exact List.mem_cons_self)
    exact lns_other h1 (lns_none fun hm => h (List.mem_cons_of_mem _ hm))
theorem lns_cut (t : List UInt8) : ∀ {h : List UInt8}, 10 ∉ h → lns (h ++ 10 :: t) = h :: lns t
  | [], _ => lns_lf t
  | c :: h, hn => by
    have h1 : c ≠ 10 := fun e => hn (by rw [e]; exact List.mem_cons_self)
    exact lns_other h1 (lns_cut t fun hm => hn (List.mem_cons_of_mem _ hm))
theorem index_no {l : List UInt8} (h : Lib.index l [10] = -1) : 10 ∉ l := by
  intro hm
  obtain ⟨j, hj, e⟩ := List.mem_iff_getElem.1 hm
  exact Lib.indexByte_none ((Lib.index_one l 10).symm.trans h) j (by rw [List.getElem?_eq_getElem hj, e])
theorem splitK_lns : ∀ (k : Nat) (l : List UInt8), Lib.count l [10] ≤ k → Lib.splitK [10] 0 k l = lns l
  | 0, l, h => by
    by_cases hz : Lib.index l [10] = -1
    · rw [lns_none (index_no hz)]; rfl
    · have hge := Lib.index_ge l [10]
      have := Lib.count_hit (s := l) (sub := [10]) (by simp) (i := (Lib.index l [10]).toNat) (by omega)
      omega
  | k + 1, l, h => by
    unfold Lib.splitK
    have hi := Lib.index_one l 10
    by_cases hz : Lib.index l [10] = -1
    · rw [if_pos (by rw [hz]; rfl), lns_none (index_no hz)]
    · have hge := Lib.index_ge l [10]
      obtain ⟨o, ho⟩ : ∃ o : Nat, Lib.index l [10] = o := ⟨(Lib.index l [10]).toNat, by omega⟩
      have hk := Lib.count_hit (s := l) (sub := [10]) (by simp) ho
      rw [if_neg (by simpa using hz), ho]
      obtain ⟨h1, h2⟩ := Lib.indexByte_some (hi.symm.trans ho)
      obtain ⟨hlt, he⟩ := List.getElem?_eq_some_iff.1 h1
      have hl : l = l.take o ++ 10 :: l.drop (o + 1) := by
        conv => lhs; rw [← List.take_append_drop o l, List.drop_eq_getElem_cons hlt, he]
      have hn : 10 ∉ l.take o := by
        intro hm
        obtain ⟨j, hj, e⟩ := List.mem_iff_getElem.1 hm
        rw [List.length_take] at hj
        rw [List.getElem_take] at e
        exact h2 j (by omega) (by rw [List.getElem?_eq_getElem (by omega), e])
      show l.take (o + 0) :: Lib.splitK [10] 0 k (l.drop (o + 1)) = lns l
      rw [Nat.add_zero, splitK_lns k _ (by show Lib.count (l.drop (o + [10].length)) [10] ≤ k; omega)]
      conv => rhs; rw [hl]
      rw [lns_cut _ hn]
def sumN (ls : List (List UInt8)) : Nat := (ls.map fun b => b.length + 1).sum
theorem sumN_cons (a : List UInt8) (r : List (List UInt8)) : sumN (a :: r) = a.length + 1 + sumN r := by simp [sumN]
theorem sumN_lns : ∀ l : List UInt8, sumN (lns l) = l.length + 1
  | [] => rfl
  | c :: l => by
    by_cases h : c = 10
    · subst h
      rw [lns_lf, sumN_cons, sumN_lns l]; simp; omega
    · obtain ⟨a, r, e⟩ := lns_cons l
      have := sumN_lns l
      rw [e, sumN_cons] at this
      rw [lns_other h e, sumN_cons]
      simp; omega
/-- The line and the column of a place among lines. -/
def spotL : List (List UInt8) → Nat → Nat × Nat
  | [], k => (1, k + 1)
  | l :: ls, k => if k ≤ l.length then (1, k + 1) else ((spotL ls (k - l.length - 1)).1 + 1, (spotL ls (k - l.length - 1)).2)
theorem spotL_in {l : List UInt8} {ls : List (List UInt8)} {k : Nat} (h : k ≤ l.length) : spotL (l :: ls) k = (1, k + 1) := if_pos h
theorem spotL_out {l : List UInt8} {ls : List (List UInt8)} {k : Nat} (h : ¬ k ≤ l.length) : spotL (l :: ls) k = ((spotL ls (k - l.length - 1)).1 + 1, (spotL ls (k - l.length - 1)).2) := if_neg h
theorem spotL_pos : ∀ (ls : List (List UInt8)) (k : Nat), 1 ≤ (spotL ls k).1
  | [], _ => Nat.le_refl _
  | l :: ls, k => by
    by_cases h : k ≤ l.length
    · rw [spotL_in h]; exact Nat.le_refl _
    · rw [spotL_out h]; exact Nat.le_add_left _ _
/-- How far behind the last line feed a text goes, and one. -/
def colL : List UInt8 → Nat
  | [] => 1
  | c :: x => if c = 10 ∨ 10 ∈ x then colL x else colL x + 1
theorem colL_snoc (c : UInt8) : ∀ y : List UInt8, colL (y ++ [c]) = if c = 10 then 1 else colL y + 1
  | [] => by
    show (if c = 10 ∨ 10 ∈ ([] : List UInt8) then colL [] else colL [] + 1) = _
    by_cases h : c = 10 <;> simp [h, colL]
  | d :: y => by
    have ih := colL_snoc c y
    show (if d = 10 ∨ 10 ∈ y ++ [c] then colL (y ++ [c]) else colL (y ++ [c]) + 1) = if c = 10 then 1 else (if d = 10 ∨ 10 ∈ y then colL y else colL y + 1) + 1
    rw [ih]
    by_cases h : c = 10
    · rw [if_pos h, if_pos h, if_pos]
      right; rw [h]; simp
    · rw [if_neg h, if_neg h]
      have : (d = 10 ∨ 10 ∈ y ++ [c]) ↔ (d = 10 ∨ 10 ∈ y) := by
        rw [List.mem_append]
        constructor
        · rintro (h1 | h1 | h1)
          · exact .inl h1
          · exact .inr h1
          · simp at h1; exact absurd h1.symm h
        · rintro (h1 | h1)
          · exact .inl h1
          · exact .inr (.inl h1)
      by_cases hd : d = 10 ∨ 10 ∈ y
      · rw [if_pos hd, if_pos (this.2 hd)]
      · rw [if_neg hd, if_neg (fun h => hd (this.1 h))]
theorem nl_zero {l : List UInt8} : nl l = 0 ↔ 10 ∉ l := by
  unfold nl
  rw [List.countP_eq_zero]
  constructor
  · intro h hm; exact h 10 hm (by decide)
  · intro h a ha hb; simp at hb; subst hb; exact h ha
theorem spotL_lns : ∀ (l : List UInt8) (k : Nat), k ≤ l.length → spotL (lns l) k = (1 + nl (l.take k), colL (l.take k))
  | l, 0, _ => by
    obtain ⟨a, r, e⟩ := lns_cons l
    rw [e, spotL_in (Nat.zero_le _)]; rfl
  | [], k + 1, h => by simp at h
  | c :: l, k + 1, h => by
    have hk : k ≤ l.length := by simpa using h
    have ih := spotL_lns l k hk
    rw [List.take_succ_cons]
    by_cases hc : c = 10
    · subst hc
      rw [lns_lf, spotL_out (by simp)]
      have e : k + 1 - ([] : List UInt8).length - 1 = k := by simp
      rw [e, ih]
      have e1 : nl (10 :: l.take k) = nl (l.take k) + 1 := by unfold nl; rw [List.countP_cons_of_pos (by decide)]
      have e2 : colL (10 :: l.take k) = colL (l.take k) := if_pos (.inl rfl)
      rw [e1, e2, Nat.add_assoc]
    · obtain ⟨a, r, e⟩ := lns_cons l
      rw [e] at ih
      rw [lns_other hc e]
      have e1 : nl (c :: l.take k) = nl (l.take k) := by unfold nl; rw [List.countP_cons_of_neg (by simpa using hc)]
      rw [e1]
      by_cases hka : k ≤ a.length
      · rw [spotL_in hka] at ih
        rw [spotL_in (by simpa using hka)]
        injection ih with i1 i2
        have hn : 10 ∉ l.take k := nl_zero.1 (by omega)
        have e2 : colL (c :: l.take k) = colL (l.take k) + 1 := if_neg (by rintro (h | h); exact hc h; exact hn h)
        rw [e2, ← i2, ← i1]
      · rw [spotL_out hka] at ih
        rw [spotL_out (by simpa using hka)]
        have e3 : k + 1 - (c :: a).length - 1 = k - a.length - 1 := by simp
        rw [e3, ih]
        injection ih with i1 i2
        have hn : 10 ∈ l.take k := by
          have := spotL_pos r (k - a.length - 1)
          have h2 : ¬ nl (l.take k) = 0 := by omega
          rw [nl_zero] at h2
          exact Decidable.not_not.1 h2
        have e2 : colL (c :: l.take k) = colL (l.take k) := if_pos (.inr hn)
        rw [e2]
theorem spotL_fwd : ∀ (ls : List (List UInt8)) (k : Nat), k < sumN ls → ∃ (n c : Nat) (a : List UInt8), spotL ls k = (n + 1, c + 1) ∧ ls[n]? = some a ∧ c ≤ a.length ∧ k = c + sumN (ls.take n)
  | [], k, h => by simp [sumN] at h
  | l :: ls, k, h => by
    rw [sumN_cons] at h
    by_cases hk : k ≤ l.length
    · exact ⟨0, k, l, spotL_in hk, rfl, hk, by simp [sumN]⟩
    · obtain ⟨n, c, a, h1, h2, h3, h4⟩ := spotL_fwd ls (k - l.length - 1) (by omega)
      refine ⟨n + 1, c, a, by rw [spotL_out hk, h1], by simpa using h2, h3, ?_⟩
      rw [List.take_succ_cons, sumN_cons]
      omega
theorem spotL_bwd : ∀ (ls : List (List UInt8)) (n c : Nat) (a : List UInt8), ls[n]? = some a → c ≤ a.length → spotL ls (c + sumN (ls.take n)) = (n + 1, c + 1)
  | [], _, _, _, h, _ => by simp at h
  | l :: ls, 0, c, a, h, hc => by
    have e : l = a := by simpa using h
    subst e
    have : c + sumN ((l :: ls).take 0) = c := by simp [sumN]
    rw [this, spotL_in hc]
  | l :: ls, n + 1, c, a, h, hc => by
    have ih := spotL_bwd ls n c a (by simpa using h) hc
    rw [List.take_succ_cons, sumN_cons]
    have e : c + (l.length + 1 + sumN (ls.take n)) = (c + sumN (ls.take n)) + l.length + 1 := by omega
    rw [e, spotL_out (by omega)]
    have e2 : c + sumN (ls.take n) + l.length + 1 - l.length - 1 = c + sumN (ls.take n) := by omega
    rw [e2, ih]
theorem linesB_lns (s : ByteArray) : (linesB s).map bs = lns (bs s) := (Lib.splitB_data ⟨#[10]⟩ 0 _ s).trans (splitK_lns _ _ (Nat.le_refl _))
theorem sumL_lns (ls : List ByteArray) : sumL ls = sumN (ls.map bs) := by
  unfold sumL sumN
  rw [List.map_map]
  have : (fun b : ByteArray => b.size + 1) = (fun b : List UInt8 => b.length + 1) ∘ bs := by
    funext b
    show b.size + 1 = (bs b).length + 1
    unfold bs; simp
  rw [this]
theorem bs_idx (x : ByteArray) (j : Nat) (h : j < x.size) : x.data[j]! = (bs x)[j]'(by unfold bs; simpa using h) := by
  unfold bs
  rw [getElem!_pos x.data j (by simpa using h)]
  simp
theorem lastIdx_col (x : ByteArray) : ∀ j : Nat, j ≤ x.size → (j : Int) - Lib.lastIdx x 10 j = colL ((bs x).take j)
  | 0, _ => rfl
  | j + 1, h => by
    have hl : j < (bs x).length := by unfold bs; simp; omega
    have ih := lastIdx_col x j (by omega)
    rw [List.take_succ_eq_append_getElem hl, colL_snoc]
    have e := bs_idx x j (by omega)
    by_cases hc : (bs x)[j] = 10
    · rw [if_pos hc, Lib.lastIdx_hit x 10 j (by rw [e, hc]; rfl)]
      omega
    · rw [if_neg hc, Lib.lastIdx_miss x 10 j (by
        rw [e]
        intro h
        exact hc (UInt8.toNat_inj.1 (by have : (10 : UInt8).toNat = 10 := rfl
                                        omega)))]
      omega
theorem spotR_at {s : ByteArray} {k : Nat} (hs : s.size ≤ 20000) (hk : k ≤ s.size) : spotR s k = (((spotL (lns (bs s)) k).1 : Int), ((spotL (lns (bs s)) k).2 : Int), 0) := by
  have hl : k ≤ (bs s).length := by unfold bs; simpa using hk
  unfold spotR
  rw [if_neg (by omega), if_neg (by omega), spotL_lns _ _ hl]
  simp only [Int.toNat_natCast]
  have hx : (s.extract 0 k).size = k := by rw [ByteArray.size_extract]; omega
  have hb : bs (s.extract 0 k) = (bs s).take k := by unfold bs; exact Lib.extract_from_zero s k
  have := lastIdx_col (s.extract 0 k) k (by omega)
  unfold Lib.lastIndexByte
  rw [hx, this, hb, List.take_take, Nat.min_self]
theorem placeR_of {s : ByteArray} (hs : s.size ≤ 20000) {n c : Nat} {a : List UInt8} (hn : (lns (bs s))[n]? = some a) (hc : c ≤ a.length) : placeR s ((n : Int) + 1) ((c : Int) + 1) = (((c + sumN ((lns (bs s)).take n) : Nat) : Int), 0) := by
  rw [← linesB_lns, List.getElem?_map] at hn
  cases hb : (linesB s)[n]? with
  | none => rw [hb] at hn; cases hn
  | some b =>
    rw [hb] at hn
    injection hn with hn
    have hlt := (List.getElem?_eq_some_iff.1 hb).1
    have hsz : b.size = a.length := by rw [← hn]; unfold bs; simp
    have e1 : ((n : Int) + 1).toNat - 1 = n := by omega
    have e2 : (linesB s).getD n ⟨#[]⟩ = b := by rw [List.getD_eq_getElem?_getD, hb]; rfl
    unfold placeR
    rw [if_neg (by omega), if_neg (by omega), e1, e2, if_neg (by omega), sumL_lns, ← linesB_lns, List.map_take]
    congr 1
    omega
/-- What Place finds lies where it was asked for. -/
theorem placeR_ok {s : ByteArray} {line column : Int} {x : Int} (h : placeR s line column = (x, 0)) :
    s.size ≤ 20000 ∧ ∃ (n c : Nat) (a : List UInt8), line = (n : Int) + 1 ∧ column = (c : Int) + 1 ∧ (lns (bs s))[n]? = some a ∧ c ≤ a.length := by
  unfold placeR at h
  split at h
  · cases h
  next h1 =>
    split at h
    · cases h
    next h2 =>
      split at h
      · cases h
      next h3 =>
        have hlt : line.toNat - 1 < (linesB s).length := by omega
        refine ⟨by omega, line.toNat - 1, column.toNat - 1, bs ((linesB s)[line.toNat - 1]), by omega, by omega, ?_, ?_⟩
        · rw [← linesB_lns, List.getElem?_map, List.getElem?_eq_getElem hlt]; rfl
        · rw [List.getD_eq_getElem?_getD, List.getElem?_eq_getElem hlt] at h3
          have : (bs ((linesB s)[line.toNat - 1])).length = ((linesB s)[line.toNat - 1]).size := by unfold bs; simp
          rw [this]
          simp only [Option.getD_some] at h3
          omega
theorem lns_total {s : ByteArray} : sumN (lns (bs s)) = s.size + 1 := by rw [sumN_lns]; unfold bs; simp
theorem sumN_take {ls : List (List UInt8)} {n : Nat} {a : List UInt8} (h : ls[n]? = some a) : sumN (ls.take n) + a.length + 1 ≤ sumN ls := by
  induction ls generalizing n with
  | nil => cases h
  | cons l ls ih =>
    cases n with
    | zero =>
      have e : l = a := by simpa using h
      subst e
      rw [sumN_cons]; simp [sumN]
    | succ n =>
      have := ih (n := n) (by simpa using h)
      rw [List.take_succ_cons, sumN_cons, sumN_cons]
      omega
/-- Place behind Spot. -/
theorem place_spot {s : ByteArray} {k : Nat} (hs : s.size ≤ 20000) (hk : k ≤ s.size) : placeR s (spotR s k).1 (spotR s k).2.1 = ((k : Int), 0) := by
  obtain ⟨n, c, a, h1, h2, h3, h4⟩ := spotL_fwd (lns (bs s)) k (by rw [lns_total]; omega)
  rw [spotR_at hs hk, h1]
  show placeR s ((n + 1 : Nat) : Int) ((c + 1 : Nat) : Int) = _
  rw [Int.natCast_add, Int.natCast_add]
  show placeR s ((n : Int) + 1) ((c : Int) + 1) = _
  rw [placeR_of hs h2 h3, ← h4]
/-- Spot behind Place. -/
theorem spot_place {s : ByteArray} {line column x : Int} (h : placeR s line column = (x, 0)) : spotR s x = (line, column, 0) ∧ 0 ≤ x ∧ x ≤ s.size := by
  obtain ⟨hs, n, c, a, rfl, rfl, hn, hc⟩ := placeR_ok h
  have h1 := placeR_of hs hn hc
  rw [h1] at h
  injection h with h _
  subst h
  have h2 := spotL_bwd _ _ _ _ hn hc
  have h3 := sumN_take hn
  rw [lns_total] at h3
  refine ⟨?_, by omega, by omega⟩
  rw [spotR_at hs (by omega), h2]
  rfl
/-- Where Place finds nothing, no place lies there. -/
theorem spot_never {s : ByteArray} {line column : Int} {y z : Int} (h : placeR s line column = (y, z)) (hz : z ≠ 0) (hs : s.size ≤ 20000) {k : Nat} (hk : k ≤ s.size) : ¬ ((spotR s k).1 = line ∧ (spotR s k).2.1 = column) := by
  rintro ⟨rfl, rfl⟩
  rw [place_spot hs hk] at h
  injection h with _ h
  exact hz h.symm
theorem spotR_bad {s : ByteArray} {k : Int} (h : (spotR s k).2.2 = 0) : s.size ≤ 20000 ∧ 0 ≤ k ∧ k ≤ s.size := by
  unfold spotR at h
  split at h
  · cases h
  · split at h
    · cases h
    · omega
end Go.Proofs.YteknngncnbfbnaaGreatDoor
