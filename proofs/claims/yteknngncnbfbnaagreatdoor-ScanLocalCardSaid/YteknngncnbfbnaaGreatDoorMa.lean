/- Numbers: what the reference says of a value is what Value says; the value of digits; digits are one piece. -/
import Derived.Test.YteknngncnbfbnaaGreatDoorDi
import Derived.Test.YteknngncnbfbnaaGreatDoorPq
import Derived.Lib.IndexMore
import Derived.Lib.ItoaMem
import Derived.Lib.Case
import Derived.KernelRfl
namespace Go.Proofs.YteknngncnbfbnaaGreatDoor
open Go Go.RowKit Go.Shelf
/-- The value of at most thirty digits in a base, in the reference's words. -/
def vdR (b : Nat) (l : List UInt8) : Option Nat := if 30 < l.length then none else vR b l
theorem valL_bad {b : Nat} : ∀ {l : List UInt8} {n : Nat} {c : UInt8}, c ∈ l → digI b c < 0 → valL b n l = none
  | d :: l, n, c, hm, hc => by
    unfold valL
    rcases List.mem_cons.1 hm with rfl | hm
    · rw [if_pos hc]
    · split
      · rfl
      · split
        · rfl
        · exact valL_bad hm hc
theorem digI_ten_all : ((List.range 256).all fun c => decide (digI 10 (UInt8.ofNat c) < 0) == !digB (c : Int)) = true := by kernel_rfl
theorem digI_ten (c : UInt8) (h : digB c.toNat = false) : digI 10 c < 0 := by
  have h1 := List.all_eq_true.1 digI_ten_all c.toNat (List.mem_range.2 c.toNat_lt)
  have e : UInt8.ofNat c.toNat = c := by simp
  rw [e, h] at h1
  simpa using h1
theorem digI_pos (c : UInt8) (h : c ≠ 48) (h2 : ¬ digI 10 c < 0) : 1 ≤ (digI 10 c).toNat := by
  have hc : c.toNat ≠ 48 := fun e => h (UInt8.toNat_inj.1 e)
  unfold digI hexv at h2 ⊢
  split at h2
  next d hd =>
    split at hd
    · injection hd with hd
      split at h2
      · rename_i h3; rw [if_pos h3]; omega
      · simp at h2
    · split at hd
      · injection hd with hd
        split at h2
        · rename_i h3; rw [if_pos h3]; omega
        · simp at h2
      · cases hd
  next => simp at h2
theorem valL_len {b : Nat} (hb : 2 ≤ b) : ∀ {l : List UInt8} {n r : Nat}, valL b n l = some r → n * 2 ^ l.length ≤ r
  | [], n, r, h => by simp [valL] at h; simp [h]
  | c :: l, n, r, h => by
    unfold valL at h
    split at h
    · cases h
    · split at h
      · cases h
      · have := valL_len hb h
        rw [List.length_cons, Nat.pow_succ, Nat.mul_comm (2 ^ l.length) 2, ← Nat.mul_assoc]
        refine Nat.le_trans (Nat.mul_le_mul_right _ ?_) this
        have := Nat.mul_le_mul_left n hb
        omega
theorem valL_ub : ∀ {l : List UInt8} {b n r : Nat}, n ≤ 1000000000 → valL b n l = some r → r ≤ 1000000000
  | [], _, _, _, hn, h => by simp [valL] at h; omega
  | c :: l, b, n, r, hn, h => by
    unfold valL at h
    split at h
    · cases h
    · split at h
      · cases h
      · exact valL_ub (by omega) h
theorem plainR_len {l : List UInt8} {n : Nat} (h : plainR l = some n) : l.length ≤ 30 := by
  unfold plainR at h
  split at h
  · cases h
  next hh =>
    unfold vR at h
    split at h
    · cases h
    · cases l with
      | nil => simp
      | cons c l =>
        by_cases hl : l = []
        · subst hl; simp
        · have h1 : 1 < (c :: l).length := by rw [List.length_cons]; have := List.length_pos_iff.2 hl; omega
          have hc : c ≠ 48 := fun e => hh ⟨h1, by rw [e]; rfl⟩
          unfold valL at h
          split at h
          · cases h
          next hd =>
            split at h
            · cases h
            next hg =>
              have hp := digI_pos c hc hd
              have h2 := valL_len (by omega) h
              have h3 := valL_ub (by omega) h
              have h4 : 2 ^ l.length ≤ n := Nat.le_trans (by rw [Nat.zero_mul, Nat.zero_add]; exact Nat.le_mul_of_pos_left _ hp) h2
              have h5 : 2 ^ l.length < 2 ^ 30 := by
                have : (2 : Nat) ^ 30 = 1073741824 := by decide
                omega
              have := (Nat.pow_lt_pow_iff_right (by omega)).1 h5
              rw [List.length_cons]; omega
theorem plainR_vd (l : List UInt8) : plainR l = if 1 < l.length ∧ l.head? = some 48 then none else vdR 10 l := by
  cases hp : plainR l with
  | none =>
    unfold plainR at hp
    split
    · rfl
    next h =>
      rw [if_neg h] at hp
      unfold vdR
      rw [hp]; split <;> rfl
  | some n =>
    have hl := plainR_len hp
    unfold plainR at hp
    split at hp
    · cases hp
    next h => rw [if_neg h]; unfold vdR; rw [if_neg (by omega), hp]
theorem cut_spec (l : List UInt8) : (∃ h t, l = h ++ 95 :: t ∧ 95 ∉ h ∧ Lib.cut l [95] = (h, t, true)) ∨ (95 ∉ l ∧ Lib.cut l [95] = (l, [], false)) := by
  have hi := Lib.index_one l 95
  by_cases h : 0 ≤ Lib.index l [95]
  · left
    obtain ⟨o, ho⟩ : ∃ o : Nat, Lib.index l [95] = o := ⟨(Lib.index l [95]).toNat, by omega⟩
    obtain ⟨h1, h2⟩ := Lib.indexByte_some (hi.symm.trans ho)
    obtain ⟨hlt, he⟩ := List.getElem?_eq_some_iff.1 h1
    refine ⟨l.take o, l.drop (o + 1), ?_, ?_, ?_⟩
    · rw [← he, ← List.drop_eq_getElem_cons hlt, List.take_append_drop]
    · intro hm
      obtain ⟨j, hj, e⟩ := List.mem_iff_getElem.1 hm
      rw [List.length_take] at hj
      rw [List.getElem_take] at e
      exact h2 j (by omega) (by rw [List.getElem?_eq_getElem (by omega), e])
    · unfold Lib.cut
      rw [if_pos h, ho]; rfl
  · right
    have h1 : Lib.indexByte l 95 = -1 := by have := Lib.index_ge l [95]; omega
    refine ⟨fun hm => ?_, by unfold Lib.cut; rw [if_neg h]⟩
    obtain ⟨j, hj, e⟩ := List.mem_iff_getElem.1 hm
    exact Lib.indexByte_none h1 j (by rw [List.getElem?_eq_getElem hj, e])
theorem spn_all {p : Int → Bool} {c : UInt8} (hc : p c.toNat = false) : ∀ {h t : List UInt8}, allB p h = true → spn p (h ++ c :: t) = h.length
  | [], t, _ => by show (if p c.toNat then spn p t + 1 else 0) = 0; rw [if_neg (by rw [hc]; decide)]
  | d :: h, t, ha => by
    have hd : p d.toNat = true ∧ allB p h = true := by unfold allB at ha ⊢; simpa using ha
    show (if p d.toNat then spn p (h ++ c :: t) + 1 else 0) = _
    rw [if_pos hd.1, spn_all hc hd.2]; rfl
theorem spn_whole {p : Int → Bool} : ∀ {h : List UInt8}, allB p h = true → spn p h = h.length
  | [], _ => rfl
  | d :: h, ha => by
    have hd : p d.toNat = true ∧ allB p h = true := by unfold allB at ha ⊢; simpa using ha
    show (if p d.toNat then spn p h + 1 else 0) = _
    rw [if_pos hd.1, spn_whole hd.2]; rfl
theorem spn_part {p : Int → Bool} : ∀ {h : List UInt8} (t : List UInt8), allB p h = false → ∃ c, h[spn p (h ++ t)]? = some c ∧ p c.toNat = false
  | [], _, ha => by cases ha
  | d :: h, t, ha => by
    show ∃ c, (d :: h)[if p d.toNat then spn p (h ++ t) + 1 else 0]? = some c ∧ _
    cases hd : p d.toNat with
    | false => exact ⟨d, rfl, hd⟩
    | true =>
      obtain ⟨c, h1, h2⟩ := spn_part (p := p) (h := h) t (by unfold allB at ha ⊢; simpa [hd] using ha)
      exact ⟨c, by simpa using h1, h2⟩
/-- What the reference says of a number's value. -/
def refR (l : List UInt8) : Option Nat :=
  match (if 1 < spn digB l ∧ l.head? = some 48 then none else vdR 10 (l.take (spn digB l))) with
  | none => none
  | some n => if spn digB l < l.length then (if l[spn digB l]? = some 95 ∧ 2 ≤ n ∧ n ≤ 16 then vdR n (l.drop (spn digB l + 1)) else none) else some n
theorem plainR_bad {h : List UInt8} {c : UInt8} (hm : c ∈ h) (hc : digB c.toNat = false) : plainR h = none := by
  unfold plainR
  split
  · rfl
  · unfold vR
    split
    · rfl
    · exact valL_bad hm (digI_ten c hc)
theorem head_take {l : List UInt8} {m : Nat} (h : 1 < m) : (l.take m).head? = l.head? := by
  cases l with
  | nil => simp
  | cons c l => obtain ⟨k, rfl⟩ : ∃ k, m = k + 1 := ⟨m - 1, by omega⟩
                rfl
theorem refR_eq (l : List UInt8) : refR l = valR l := by
  have key : (if 1 < spn digB l ∧ l.head? = some 48 then none else vdR 10 (l.take (spn digB l))) = plainR (l.take (spn digB l)) := by
    rw [plainR_vd]
    have hl : (l.take (spn digB l)).length = spn digB l := by
      rw [List.length_take]
      have : spn digB l ≤ l.length := by
        induction l with
        | nil => exact Nat.le_refl _
        | cons c l ih => show (if digB c.toNat then spn digB l + 1 else 0) ≤ _; split <;> simp <;> omega
      omega
    rw [hl]
    by_cases h1 : 1 < spn digB l
    · rw [head_take h1]
    · rw [if_neg (fun h => h1 h.1), if_neg (fun h => h1 h.1)]
  unfold refR valR
  rw [key]
  rcases cut_spec l with ⟨h, t, hl, hn, hc⟩ | ⟨hn, hc⟩
  · rw [hc]
    simp only
    by_cases ha : allB digB h = true
    · have hs : spn digB l = h.length := by rw [hl]; exact spn_all (by decide) ha
      rw [hs]
      have e1 : l.take h.length = h := by rw [hl]; simp
      have e2 : l[h.length]? = some 95 := by rw [hl]; simp
      have e3 : h.length < l.length := by rw [hl]; simp
      have e4 : l.drop (h.length + 1) = t := by rw [hl]; simp [List.drop_append]
      rw [e1, e2, e4]
      cases plainR h with
      | none => rfl
      | some n =>
        simp only
        rw [if_pos e3]
        simp only [true_and, if_true]
        unfold basedR vdR
        by_cases hb : 2 ≤ n ∧ n ≤ 16
        · rw [if_pos hb]
          by_cases h30 : 30 < t.length
          · rw [if_pos h30, if_pos (by omega)]
          · rw [if_neg h30, if_neg (by omega)]
        · rw [if_neg hb, if_pos (by omega)]
    · have ha' : allB digB h = false := by simpa using ha
      obtain ⟨c, h1, h2⟩ := spn_part (p := digB) (95 :: t) ha'
      rw [← hl] at h1
      have hm := List.mem_of_getElem? h1
      have hlt := (List.getElem?_eq_some_iff.1 h1).1
      rw [plainR_bad hm h2]
      have e2 : l[spn digB l]? = some c := by
        have : (h ++ 95 :: t)[spn digB l]? = some c := by rw [List.getElem?_append_left hlt]; exact h1
        rwa [← hl] at this
      have e3 : spn digB l < l.length := (List.getElem?_eq_some_iff.1 e2).1
      cases plainR (l.take (spn digB l)) with
      | none => rfl
      | some n =>
        simp only
        rw [if_pos e3, if_neg]
        rintro ⟨h, _⟩
        rw [e2] at h
        injection h with h
        subst h
        exact hn hm
  · rw [hc]
    simp only
    by_cases ha : allB digB l = true
    · rw [spn_whole ha, List.take_length]
      cases plainR l with
      | none => rfl
      | some n => simp
    · have ha' : allB digB l = false := by simpa using ha
      obtain ⟨c, h1, h2⟩ := spn_part (p := digB) [] ha'
      rw [List.append_nil] at h1
      have hm := List.mem_of_getElem? h1
      rw [plainR_bad hm h2]
      have e3 : spn digB l < l.length := (List.getElem?_eq_some_iff.1 h1).1
      cases plainR (l.take (spn digB l)) with
      | none => rfl
      | some n =>
        simp only
        rw [if_pos e3, if_neg]
        rintro ⟨h, _⟩
        rw [h1] at h
        injection h with h
        subst h
        exact hn hm
def dgU (d : Nat) : UInt8 := if d < 10 then UInt8.ofNat (48 + d) else UInt8.ofNat (55 + d)
/-- A number in a base, as the reference writes it. -/
def inBL (b : Nat) : Nat → Nat → List UInt8
  | 0, n => [dgU n]
  | f + 1, n => if n < b then [dgU n] else inBL b f (n / b) ++ [dgU (n % b)]
theorem inBL_one {b f n : Nat} (h : n < b) : inBL b f n = [dgU n] := by
  cases f with
  | zero => rfl
  | succ f => unfold inBL; rw [if_pos h]
theorem inBL_more {b f n : Nat} (h : ¬ n < b) : inBL b (f + 1) n = inBL b f (n / b) ++ [dgU (n % b)] := by
  conv => lhs; unfold inBL
  rw [if_neg h]
theorem upper_dgt (d : Nat) (h : d < 16) : Lib.upperB (dgt d) = dgU d := by
  have : ∀ d : Fin 16, Lib.upperB (dgt d.val) = dgU d.val := by decide
  exact this ⟨d, h⟩
theorem dgU_ten (d : Nat) (h : d < 10) : dgU d = UInt8.ofNat (48 + d) := if_pos h
theorem digI_dgU_all : ((List.range 17).all fun b => (List.range b).all fun d => decide (digI b (dgU d) = (d : Int))) = true := by kernel_rfl
theorem digI_dgU {b d : Nat} (hb : b ≤ 16) (h : d < b) : digI b (dgU d) = d := by
  have h1 := List.all_eq_true.1 digI_dgU_all b (List.mem_range.2 (by omega))
  exact of_decide_eq_true (List.all_eq_true.1 h1 d (List.mem_range.2 h))
theorem div_fit {b f n : Nat} (hb : 2 ≤ b) (hn : n < b ^ (f + 1 + 1)) : n / b < b ^ (f + 1) := by
  rw [Nat.div_lt_iff_lt_mul (by omega)]
  rw [Nat.pow_succ] at hn
  exact hn
theorem upper_digL {b : Nat} (hb : 2 ≤ b) (hb2 : b ≤ 16) : ∀ {f n : Nat}, n < b ^ (f + 1) → Lib.toUpperA (digL b f n) = inBL b f n
  | 0, n, h => by simp at h; show [Lib.upperB (dgt n)] = [dgU n]; rw [upper_dgt n (by omega)]
  | f + 1, n, h => by
    by_cases hn : n < b
    · rw [inBL_one hn]
      unfold digL; rw [if_pos hn]
      show [Lib.upperB (dgt n)] = [dgU n]; rw [upper_dgt n (by omega)]
    · rw [inBL_more hn, ← upper_digL hb hb2 (div_fit hb h)]
      conv => lhs; unfold digL
      rw [if_neg hn]
      unfold Lib.toUpperA
      rw [List.map_append]
      congr 1
      show [Lib.upperB (dgt (n % b))] = _
      rw [upper_dgt _ (by have := Nat.mod_lt n (show 0 < b by omega); omega)]
theorem dec_inBL : ∀ {f n : Nat}, n < 10 ^ (f + 1) → Lib.decDigits n = inBL 10 f n
  | 0, n, h => by simp at h; rw [Lib.decDigits, dif_pos h, inBL_one h, dgU_ten n h]
  | f + 1, n, h => by
    by_cases hn : n < 10
    · rw [Lib.decDigits, dif_pos hn, inBL_one hn, dgU_ten n hn]
    · rw [Lib.decDigits, dif_neg hn, inBL_more hn, dec_inBL (div_fit (by omega) h), dgU_ten _ (Nat.mod_lt _ (by omega))]
theorem valL_app (b : Nat) : ∀ (l k : List UInt8) (n : Nat), valL b n (l ++ k) = (valL b n l).bind fun r => valL b r k
  | [], _, _ => rfl
  | c :: l, k, n => by
    have h1 : valL b n ((c :: l) ++ k) = if digI b c < 0 then none else if 1000000000 < n * b + (digI b c).toNat then none else valL b (n * b + (digI b c).toNat) (l ++ k) := rfl
    have h2 : valL b n (c :: l) = if digI b c < 0 then none else if 1000000000 < n * b + (digI b c).toNat then none else valL b (n * b + (digI b c).toNat) l := rfl
    rw [h1, h2]
    split
    · rfl
    · split
      · rfl
      · exact valL_app b l k _
theorem valL_inBL {b : Nat} (hb : 2 ≤ b) (hb2 : b ≤ 16) : ∀ {f n : Nat}, n ≤ 1000000000 → n < b ^ (f + 1) → valL b 0 (inBL b f n) = some n
  | 0, n, h1, h => by
    simp at h
    show valL b 0 [dgU n] = _
    unfold valL
    rw [digI_dgU hb2 h, if_neg (by omega), if_neg (by omega)]
    simp [valL]
  | f + 1, n, h1, h => by
    by_cases hn : n < b
    · rw [inBL_one hn]
      unfold valL
      rw [digI_dgU hb2 hn, if_neg (by omega), if_neg (by omega)]
      simp [valL]
    · have hd : n / b ≤ 1000000000 := Nat.le_trans (Nat.div_le_self _ _) h1
      have hm := Nat.mod_lt n (show 0 < b by omega)
      have he : n / b * b + n % b = n := by rw [Nat.mul_comm]; exact Nat.div_add_mod n b
      rw [inBL_more hn, valL_app, valL_inBL hb hb2 hd (div_fit hb h)]
      show valL b (n / b) [dgU (n % b)] = some n
      unfold valL
      rw [digI_dgU hb2 hm, if_neg (by omega), Int.toNat_natCast, he, if_neg (by omega)]
      rfl
theorem inBL_len {b : Nat} (hb : 2 ≤ b) : ∀ {k f n : Nat}, n < b ^ (k + 1) → (inBL b f n).length ≤ k + 1
  | k, 0, n, _ => by simp [inBL]
  | 0, f + 1, n, h => by simp at h; rw [inBL_one h]; simp
  | k + 1, f + 1, n, h => by
    by_cases hn : n < b
    · rw [inBL_one hn]; simp
    · rw [inBL_more hn]
      have := inBL_len hb (f := f) (div_fit hb h)
      simp; omega
theorem dgU_zero (d : Nat) (h : d < 16) (h1 : 1 ≤ d) : dgU d ≠ 48 := by
  have : ∀ d : Fin 16, 1 ≤ d.val → dgU d.val ≠ 48 := by decide
  exact this ⟨d, h⟩ h1
theorem inBL_head {b : Nat} (hb : 2 ≤ b) (hb2 : b ≤ 16) : ∀ {f n : Nat}, 1 ≤ n → n < b ^ (f + 1) → ∃ c l, inBL b f n = c :: l ∧ c ≠ 48
  | 0, n, h1, h => ⟨dgU n, [], rfl, dgU_zero n (by simp at h; omega) h1⟩
  | f + 1, n, h1, h => by
    by_cases hn : n < b
    · exact ⟨dgU n, [], inBL_one hn, dgU_zero n (by omega) h1⟩
    · obtain ⟨c, l, e, hc⟩ := inBL_head hb hb2 (f := f) (n := n / b) (Nat.div_pos (by omega) (by omega)) (div_fit hb h)
      exact ⟨c, l ++ [dgU (n % b)], by rw [inBL_more hn, e]; rfl, hc⟩
theorem inBL_ne (b f n : Nat) : inBL b f n ≠ [] := by
  cases f with
  | zero => simp [inBL]
  | succ f => unfold inBL; split <;> simp
theorem dgU_dig (d : Nat) (h : d < 10) : digB (dgU d).toNat = true := by
  have : ∀ d : Fin 10, digB (dgU d.val).toNat = true := by decide
  exact this ⟨d, h⟩
theorem dgU_aln (d : Nat) (h : d < 16) : alnB (dgU d).toNat = true := by
  have : ∀ d : Fin 16, alnB (dgU d.val).toNat = true := by decide
  exact this ⟨d, h⟩
theorem inBL_all {b : Nat} {p : Int → Bool} (hb : 2 ≤ b) (hp : ∀ d, d < b → p (dgU d).toNat = true) : ∀ {f n : Nat}, n < b ^ (f + 1) → allB p (inBL b f n) = true
  | 0, n, h => by simp at h; show ([dgU n].all fun b => p b.toNat) = true; simp [hp n h]
  | f + 1, n, h => by
    by_cases hn : n < b
    · rw [inBL_one hn]; show ([dgU n].all fun b => p b.toNat) = true; simp [hp n hn]
    · rw [inBL_more hn]
      have h1 := inBL_all hb hp (f := f) (div_fit hb h)
      have h2 := hp (n % b) (Nat.mod_lt n (by omega))
      unfold allB at h1 ⊢
      rw [List.all_append, h1]
      simp [h2]
theorem fit41 {b n : Nat} (hb : 2 ≤ b) (hn : n ≤ 1000000000) : n < b ^ (40 + 1) := by
  have h := Nat.pow_le_pow_left hb 41
  have h3 : (2 : Nat) ^ 41 = 2199023255552 := by decide
  show n < b ^ 41
  omega
theorem fit30 {b n : Nat} (hb : 2 ≤ b) (hn : n ≤ 1000000000) : n < b ^ (29 + 1) := by
  have h := Nat.pow_le_pow_left hb 30
  have h3 : (2 : Nat) ^ 30 = 1073741824 := by decide
  show n < b ^ 30
  omega
/-- The digits of a number in a base, with the base ahead unless it is ten. -/
def digsL (n b : Nat) : List UInt8 := if b = 10 then inBL 10 40 n else inBL 10 40 b ++ 95 :: inBL b 40 n
theorem digR_ok {n b : Nat} (hn : n ≤ 1000000000) (h1 : 2 ≤ b) (h2 : b ≤ 16) : digR n b = (digsL n b, 0) := by
  unfold digR digsL
  rw [if_neg (by omega)]
  by_cases h : b = 10
  · subst h
    rw [if_pos (by rfl), if_pos rfl, Lib.itoa_nonneg, dec_inBL (fit41 (by omega) hn)]
  · rw [if_neg (by omega), if_neg h]
    simp only [Int.toNat_natCast]
    rw [upper_digL h1 h2 (fit41 h1 hn), dec_inBL (f := 40) (fit41 (by omega) (by omega))]
theorem plainR_inBL {n : Nat} (hn : n ≤ 1000000000) : plainR (inBL 10 40 n) = some n := by
  have hv : vR 10 (inBL 10 40 n) = some n := by
    unfold vR
    rw [if_neg (inBL_ne _ _ _), valL_inBL (by omega) (by omega) hn (fit41 (by omega) hn)]
  unfold plainR
  rw [if_neg, hv]
  rintro ⟨h1, h2⟩
  by_cases h0 : n < 10
  · rw [inBL_one h0] at h1; simp at h1
  · obtain ⟨c, l, e, hc⟩ := inBL_head (b := 10) (by omega) (by omega) (f := 40) (n := n) (by omega) (fit41 (by omega) hn)
    rw [e] at h2
    simp at h2
    exact hc h2
theorem basedR_inBL {n b : Nat} (hn : n ≤ 1000000000) (h1 : 2 ≤ b) (h2 : b ≤ 16) : basedR (inBL b 40 n) b = some n := by
  have hl := inBL_len h1 (f := 40) (fit30 h1 hn)
  unfold basedR vR
  rw [if_neg (by omega), if_neg (inBL_ne _ _ _), valL_inBL h1 h2 hn (fit41 h1 hn)]
theorem dig_inBL {n : Nat} (hn : n ≤ 1000000000) : allB digB (inBL 10 40 n) = true := inBL_all (by omega) (fun d hd => dgU_dig d hd) (fit41 (by omega) hn)
theorem aln_inBL {n b : Nat} (hn : n ≤ 1000000000) (h1 : 2 ≤ b) (h2 : b ≤ 16) : allB alnB (inBL b 40 n) = true := inBL_all h1 (fun d hd => dgU_aln d (by omega)) (fit41 h1 hn)
theorem refR_digs {n b : Nat} (hn : n ≤ 1000000000) (h1 : 2 ≤ b) (h2 : b ≤ 16) : refR (digsL n b) = some n := by
  have key : ∀ (l : List UInt8), allB digB l = true → (if 1 < l.length ∧ l.head? = some 48 then none else vdR 10 l) = plainR l := fun l _ => (plainR_vd l).symm
  unfold digsL
  by_cases h : b = 10
  · rw [if_pos h]
    have ha := dig_inBL hn
    have hp := plainR_inBL hn
    generalize inBL 10 40 n = l at ha hp ⊢
    unfold refR
    rw [spn_whole ha, List.take_length, key l ha, hp]
    simp
  · rw [if_neg h]
    have ha := dig_inBL (show b ≤ 1000000000 by omega)
    have hp := plainR_inBL (show b ≤ 1000000000 by omega)
    have hb := basedR_inBL hn h1 h2
    generalize inBL 10 40 b = l at ha hp ⊢
    generalize inBL b 40 n = u at hb ⊢
    have hs : spn digB (l ++ 95 :: u) = l.length := spn_all (by decide) ha
    unfold refR
    rw [hs]
    have e1 : (l ++ 95 :: u).take l.length = l := by simp
    have e2 : (l ++ 95 :: u)[l.length]? = some 95 := by simp
    have e3 : l.length < (l ++ 95 :: u).length := by simp
    have e4 : (l ++ 95 :: u).drop (l.length + 1) = u := by simp [List.drop_append]
    have e5 : (if 1 < l.length ∧ (l ++ 95 :: u).head? = some 48 then none else vdR 10 l) = plainR l := by
      rw [plainR_vd]
      cases l with
      | nil => rfl
      | cons c l => rfl
    rw [e1, e2, e4, e5, hp]
    simp only
    rw [if_pos e3, if_pos ⟨trivial, h1, h2⟩]
    unfold basedR at hb
    unfold vdR
    rw [if_neg (by
      intro h30
      rw [if_pos (by omega)] at hb
      cases hb)]
    split at hb
    · cases hb
    · exact hb
theorem valR_digs {n b : Nat} (hn : n ≤ 1000000000) (h1 : 2 ≤ b) (h2 : b ≤ 16) : valR (digsL n b) = some n := (refR_eq _).symm.trans (refR_digs hn h1 h2)
theorem digs_len {n b : Nat} (hn : n ≤ 1000000000) (h1 : 2 ≤ b) (h2 : b ≤ 16) : (digsL n b).length ≤ 61 := by
  have hl := inBL_len h1 (f := 40) (fit30 h1 hn)
  unfold digsL
  split
  · have := inBL_len (b := 10) (by omega) (f := 40) (fit30 (b := 10) (by omega) hn); omega
  · have := inBL_len (b := 10) (by omega) (f := 40) (fit30 (b := 10) (by omega) (show b ≤ 1000000000 by omega))
    simp; omega
theorem digs_head {n b : Nat} (hn : n ≤ 1000000000) (_h1 : 2 ≤ b) (h2 : b ≤ 16) : ∃ c l, digsL n b = c :: l ∧ digB c.toNat = true := by
  have key : ∀ m : Nat, m ≤ 1000000000 → ∃ c l, inBL 10 40 m = c :: l ∧ digB c.toNat = true := by
    intro m hm
    have ha := dig_inBL hm
    have hne := inBL_ne 10 40 m
    cases hl : inBL 10 40 m with
    | nil => exact absurd hl hne
    | cons c l =>
      rw [hl] at ha
      exact ⟨c, l, rfl, by unfold allB at ha; simp at ha; exact ha.1⟩
  unfold digsL
  split
  · exact key n hn
  · obtain ⟨c, l, e, hc⟩ := key b (by omega)
    exact ⟨c, l ++ 95 :: inBL b 40 n, by rw [e]; rfl, hc⟩
theorem digs_numLen {n b : Nat} (hn : n ≤ 1000000000) (h1 : 2 ≤ b) (h2 : b ≤ 16) : numLen (digsL n b) = (digsL n b).length := by
  unfold digsL
  by_cases h : b = 10
  · rw [if_pos h]
    have ha := dig_inBL hn
    generalize inBL 10 40 n = l at ha ⊢
    unfold numLen
    rw [spn_whole ha]
    simp only
    rw [List.drop_length]
    rfl
  · rw [if_neg h]
    have ha := dig_inBL (show b ≤ 1000000000 by omega)
    have hb := aln_inBL hn h1 h2
    generalize inBL 10 40 b = l at ha ⊢
    generalize inBL b 40 n = u at hb ⊢
    have hs : spn digB (l ++ 95 :: u) = l.length := spn_all (by decide) ha
    have e4 : (l ++ 95 :: u).drop (l.length + 1) = u := by simp [List.drop_append]
    have e5 : (l ++ 95 :: u).drop l.length = 95 :: u := by simp
    unfold numLen
    rw [hs]
    simp only
    rw [e4, e5, spn_whole hb, if_pos (by rfl)]
    simp; omega
theorem dig_not {p : Int → Bool} (h : ∀ c : Fin 256, digB (c.val : Int) = true → p (c.val : Int) = false) {c : UInt8} (hc : digB c.toNat = true) : p c.toNat = false := h ⟨c.toNat, c.toNat_lt⟩ hc
theorem first_digs {n b : Nat} (hn : n ≤ 1000000000) (h1 : 2 ≤ b) (h2 : b ≤ 16) : firstL (digsL n b) = .ok 3 (digsL n b).length := by
  have hN := digs_numLen hn h1 h2
  have hv := valR_digs hn h1 h2
  obtain ⟨c, l, e, hc⟩ := digs_head hn h1 h2
  have h0 : c.toNat < 58 ∧ 48 ≤ c.toNat := by unfold digB at hc; simp at hc; omega
  generalize digsL n b = L at hN hv e ⊢
  have f0 : fin0 L = none := by
    unfold fin0; rw [if_neg]; rw [e]; show ¬ blkB c.toNat = true
    unfold blkB; simp; omega
  have hpre : ∀ x y : UInt8, 58 ≤ x.toNat ∨ x.toNat < 48 → preB L (x :: y :: []) = false := by
    intro x y hx
    rw [e]; unfold preB
    show (x == c && _) = false
    have : (x == c) = false := by
      rw [beq_eq_false_iff_ne]; intro h; subst h; omega
    rw [this]; rfl
  have f1 : fin1 L = none := by unfold fin1; rw [if_neg]; rw [hpre 40 42 (by decide)]; decide
  have f2 : fin2 L = none := by unfold fin2; rw [if_neg]; rw [hpre 60 42 (by decide)]; decide
  have f3 : fin3 L = none := by
    unfold fin3; rw [if_neg]; rw [e]; show ¬ letB c.toNat = true
    unfold letB; simp; omega
  have f4 : fin4 L = some (.ok 3 L.length) := by
    unfold fin4; rw [if_pos (by rw [e]; exact hc), hN, List.take_length, hv]
  unfold firstL
  rw [f0, f1, f2, f3, f4]
  rfl
/-- The digits of a number, in any base, are one piece: a number. -/
theorem pcs_digs {n b : Nat} (hn : n ≤ 1000000000) (h1 : 2 ≤ b) (h2 : b ≤ 16) : pcsL (digsL n b) = ([(3, mkS (digsL n b))], 0, 0) := by
  have hf := first_digs hn h1 h2
  have hl := digs_len hn h1 h2
  obtain ⟨c, l, e, _⟩ := digs_head hn h1 h2
  generalize digsL n b = L at hf hl e ⊢
  unfold pcsL
  rw [if_neg (by omega)]
  have hg : goL L.length L = ([(3, mkS L)], L.length, none) := by
    obtain ⟨f, hL⟩ : ∃ f, L.length = f + 1 := ⟨l.length, by rw [e]; rfl⟩
    have : goL (f + 1) L = ((3, mkS (L.take L.length)) :: (goL f (L.drop L.length)).1, L.length + (goL f (L.drop L.length)).2.1, (goL f (L.drop L.length)).2.2) := by
      conv => lhs; rw [e]; unfold goL
      rw [← e, hf]
    rw [hL, this, ← hL, List.take_length, List.drop_length]
    cases f <;> rfl
  rw [hg]
end Go.Proofs.YteknngncnbfbnaaGreatDoor
