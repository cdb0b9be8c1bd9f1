/- Part 47 of 53: the texts Vp, Vq, one behind the other. -/
import Derived.Test.YteaokkaidcbdlaaGreatDoorJ46
import Derived.Test.YteaokkaidcbdlaaGreatDoorJ43
import Derived.Tactics
import Derived.Tactics2
import Derived.WalkKit
import Derived.LoopTactic
import Derived.Outline
import Derived.Lib.Hide
import Derived.Handy
import Derived.KernelRfl
import Derived.Deep.LoopGhost
import Derived.CallsIn
import Derived.Deep.QuietTactic
import Derived.BigQuiet
import Derived.Deep.Draws
import Derived.WalkSpells
import Derived.Lib.Walk
import Derived.Lib.Strings
import Derived.Maps.OwnOps
import Derived.Maps.OwnSet
import Derived.Deep.RegionWith
import Derived.StillTailTactics
import Derived.WalkMore
import Derived.RangeFuncNested
import Derived.RangeFuncBound
import Derived.RangeFuncCalls
import Derived.RangeFuncLeaves
import Derived.RangeFuncBox
import Derived.Shelf.Abstract
import Derived.OwnWalkIn
import Derived.TacticsInMore
import Derived.LoopNIn
import Derived.LoopIn
import Derived.RecoverIn
import Derived.Maps.AppendAt
import Derived.RegionTactic
import Derived.ChangeAlike
import Derived.OwnWalk
import Derived.Deep.AppendLies
import Derived.Deep.DeepCutAuto
import Derived.Deep.RegionLaw
import Derived.Deep.RegionHeld3
import Derived.Laws.EntriesVeiled
namespace Go.Proofs.YteaokkaidcbdlaaGreatDoor
open Go Go.RowKit Go.Shelf
theorem span_inj {p : UInt8 → Bool} : ∀ {l m r s : List UInt8}, l.all p = true → m.all p = true → (∀ c, r.head? = some c → p c = false) → (∀ c, s.head? = some c → p c = false) → l ++ r = m ++ s → l = m ∧ r = s
  | [], [], _, _, _, _, _, _, h => ⟨rfl, h⟩
  | [], y :: m, r, s, _, hm, hr, _, h => by
    rw [List.nil_append, List.cons_append] at h
    have := hr y (by rw [h]; rfl)
    simp only [List.all_cons, Bool.and_eq_true] at hm
    rw [hm.1] at this; cases this
  | x :: l, [], r, s, hl, _, _, hs, h => by
    rw [List.nil_append, List.cons_append] at h
    have := hs x (by rw [← h]; rfl)
    simp only [List.all_cons, Bool.and_eq_true] at hl
    rw [hl.1] at this; cases this
  | x :: l, y :: m, r, s, hl, hm, hr, hs, h => by
    rw [List.cons_append, List.cons_append, List.cons.injEq] at h
    simp only [List.all_cons, Bool.and_eq_true] at hl hm
    obtain ⟨h1, h2⟩ := span_inj hl.2 hm.2 hr hs h.2
    exact ⟨by rw [h.1, h1], h2⟩
def decC (c : UInt8) : Bool := decide (48 ≤ c.toNat ∧ c.toNat ≤ 57)
def numC (c : UInt8) : Bool := decC c || decide (c.toNat = 45)
def valD (l : List UInt8) : Nat := l.foldl (fun a c => a * 10 + (c.toNat - 48)) 0
theorem ofNat_dig {k : Nat} (h : k < 10) : (UInt8.ofNat (48 + k)).toNat = 48 + k := by
  rw [UInt8.toNat_ofNat']
  omega
theorem dec_all (u : Nat) : (Lib.decDigits u).all decC = true ∧ valD (Lib.decDigits u) = u ∧ Lib.decDigits u ≠ [] := by
  induction u using Nat.strongRecOn with
  | _ u ih =>
    rw [Lib.decDigits]
    by_cases h : u < 10
    · rw [dif_pos h]
      refine ⟨?_, ?_, by simp⟩
      · simp only [List.all_cons, List.all_nil, Bool.and_true]
        unfold decC
        rw [ofNat_dig h]; simp; omega
      · unfold valD
        simp only [List.foldl_cons, List.foldl_nil]
        rw [ofNat_dig h]; omega
    · rw [dif_neg h]
      obtain ⟨h1, h2, h3⟩ := ih (u / 10) (by omega)
      have hm : u % 10 < 10 := Nat.mod_lt _ (by decide)
      refine ⟨?_, ?_, by simp⟩
      · rw [List.all_append, h1]
        simp only [List.all_cons, List.all_nil, Bool.and_true, Bool.true_and]
        unfold decC
        rw [ofNat_dig hm]; simp; omega
      · unfold valD at h2 ⊢
        rw [List.foldl_append, h2]
        simp only [List.foldl_cons, List.foldl_nil]
        rw [ofNat_dig hm]; omega
theorem itoa_all (n : Int) : (Lib.itoa n).all numC = true := by
  have hd : ∀ u, (Lib.decDigits u).all numC = true := fun u => by
    have := (dec_all u).1
    rw [List.all_eq_true] at this ⊢
    intro c hc
    unfold numC
    rw [this c hc]; rfl
  unfold Lib.itoa
  split
  · simp only [List.all_cons, hd, Bool.and_true]; rfl
  · exact hd _
theorem itoa_dec {n : Int} (h : 0 ≤ n) : (Lib.itoa n).all decC = true ∧ Lib.itoa n ≠ [] := by
  unfold Lib.itoa
  rw [if_neg (by omega)]
  exact ⟨(dec_all _).1, (dec_all _).2.2⟩
theorem itoa_inj {n m : Int} (h : Lib.itoa n = Lib.itoa m) : n = m := by
  have hd : ∀ u v, 45 :: Lib.decDigits u = Lib.decDigits v → False := fun u v e => by
    have := (dec_all v).1
    rw [← e] at this
    simp only [List.all_cons, Bool.and_eq_true] at this
    exact absurd this.1 (by decide)
  unfold Lib.itoa at h
  by_cases hn : n < 0
  · by_cases hm : m < 0
    · rw [if_pos hn, if_pos hm, List.cons.injEq] at h
      have := congrArg valD h.2
      rw [(dec_all _).2.1, (dec_all _).2.1] at this
      omega
    · rw [if_pos hn, if_neg hm] at h
      exact (hd _ _ h).elim
  · by_cases hm : m < 0
    · rw [if_neg hn, if_pos hm] at h
      exact (hd _ _ h.symm).elim
    · rw [if_neg hn, if_neg hm] at h
      have := congrArg valD h
      rw [(dec_all _).2.1, (dec_all _).2.1] at this
      omega
theorem itoa_span {n m : Int} {r s : List UInt8} (hr : ∀ c, r.head? = some c → numC c = false) (hs : ∀ c, s.head? = some c → numC c = false) (h : Lib.itoa n ++ r = Lib.itoa m ++ s) : n = m ∧ r = s := by
  obtain ⟨h1, h2⟩ := span_inj (itoa_all n) (itoa_all m) hr hs h
  exact ⟨itoa_inj h1, h2⟩
end Go.Proofs.YteaokkaidcbdlaaGreatDoor

namespace Go.Proofs.YteaokkaidcbdlaaGreatDoor
open Go Go.RowKit Go.Shelf
def alC (c : UInt8) : Bool := alnB c.toNat
def syC (c : UInt8) : Bool := alC c || decide (c.toNat = 46)
def brC (c : UInt8) : Bool := brnB c.toNat
theorem alC_iff (c : UInt8) : alC c = true ↔ (65 ≤ c.toNat ∧ c.toNat ≤ 90 ∨ 97 ≤ c.toNat ∧ c.toNat ≤ 122) ∨ (48 ≤ c.toNat ∧ c.toNat ≤ 57) := by
  unfold alC alnB letB digB
  rw [Bool.or_eq_true, decide_eq_true_iff, decide_eq_true_iff]; omega
theorem syC_iff (c : UInt8) : syC c = true ↔ ((65 ≤ c.toNat ∧ c.toNat ≤ 90 ∨ 97 ≤ c.toNat ∧ c.toNat ≤ 122) ∨ (48 ≤ c.toNat ∧ c.toNat ≤ 57)) ∨ c.toNat = 46 := by
  unfold syC
  rw [Bool.or_eq_true, alC_iff, decide_eq_true_iff]
theorem numC_iff (c : UInt8) : numC c = true ↔ (48 ≤ c.toNat ∧ c.toNat ≤ 57) ∨ c.toNat = 45 := by
  unfold numC decC
  rw [Bool.or_eq_true, decide_eq_true_iff, decide_eq_true_iff]
theorem not_mem_of {p : UInt8 → Bool} {l : List UInt8} {s : UInt8} (h : l.all p = true) (hs : p s = false) : s ∉ l := fun hm => by
  have := List.all_eq_true.1 h s hm
  rw [this] at hs; cases hs
theorem map_inj_on {α β : Type} {f : α → β} : ∀ {A B : List α}, (∀ x ∈ A, ∀ y ∈ B, f x = f y → x = y) → A.map f = B.map f → A = B
  | [], [], _, _ => rfl
  | [], _ :: _, _, h => by simp at h
  | _ :: _, [], _, h => by simp at h
  | a :: A, b :: B, hi, h => by
    rw [List.map_cons, List.map_cons, List.cons.injEq] at h
    rw [hi a (by simp) b (by simp) h.1, map_inj_on (fun x hx y hy => hi x (by simp [hx]) y (by simp [hy])) h.2]
def sepW (s : UInt8) (A : List (List UInt8)) : List UInt8 := A.flatMap (s :: ·)
theorem sepW_cons (s : UInt8) (a : List UInt8) (A) : sepW s (a :: A) = s :: (a ++ sepW s A) := rfl
theorem sepW_append (s : UInt8) (A B) : sepW s (A ++ B) = sepW s A ++ sepW s B := by unfold sepW; rw [List.flatMap_append]
theorem sepW_head {s : UInt8} {A : List (List UInt8)} {c : UInt8} (h : (sepW s A).head? = some c) : c = s := by
  cases A with
  | nil => cases h
  | cons a A => rw [sepW_cons] at h; simpa using h.symm
theorem sep_inj {s : UInt8} : ∀ {A B : List (List UInt8)}, (∀ w ∈ A, s ∉ w) → (∀ w ∈ B, s ∉ w) → sepW s A = sepW s B → A = B
  | [], [], _, _, _ => rfl
  | [], b :: B, _, _, h => by rw [sepW_cons] at h; cases h
  | a :: A, [], _, _, h => by rw [sepW_cons] at h; cases h
  | a :: A, b :: B, ha, hb, h => by
    rw [sepW_cons, sepW_cons, List.cons.injEq] at h
    have ht : ∀ z : List UInt8, s ∉ z → z.all (fun c => !(c == s)) = true := fun z hz => by
      rw [List.all_eq_true]
      intro c hc
      have : c ≠ s := fun e => hz (e ▸ hc)
      simpa using this
    obtain ⟨h1, h2⟩ := span_inj (p := fun c => !(c == s)) (ht a (ha a (by simp))) (ht b (hb b (by simp))) (fun c hc => by rw [sepW_head hc]; simp) (fun c hc => by rw [sepW_head hc]; simp) h.2
    rw [h1, sep_inj (fun w hw => ha w (by simp [hw])) (fun w hw => hb w (by simp [hw])) h2]
theorem comma_inj {p : UInt8 → Bool} (hp : p 44 = false) {a b : List UInt8} {A B : List (List UInt8)} (ha : a.all p = true) (hb : b.all p = true) (hA : ∀ w ∈ A, w.all p = true) (hB : ∀ w ∈ B, w.all p = true) (h : a ++ sepW 44 A = b ++ sepW 44 B) : a = b ∧ A = B := by
  obtain ⟨h1, h2⟩ := span_inj ha hb (fun c hc => by rw [sepW_head hc]; exact hp) (fun c hc => by rw [sepW_head hc]; exact hp) h
  exact ⟨h1, sep_inj (fun w hw => not_mem_of (hA w hw) hp) (fun w hw => not_mem_of (hB w hw) hp) h2⟩
theorem args_go : ∀ (l : List Int) (k : Nat), 0 < k → (l.zipIdx k).flatMap (fun x => argW x.2 x.1) = sepW 44 (l.map Lib.itoa)
  | [], _, _ => rfl
  | a :: l, k, hk => by
    rw [List.zipIdx_cons, List.flatMap_cons, args_go l (k + 1) (by omega), List.map_cons, sepW_cons]
    unfold argW
    rw [if_neg (by simp only; omega)]; rfl
theorem args_cons (a : Int) (l : List Int) : argsW (a :: l) = Lib.itoa a ++ sepW 44 (l.map Lib.itoa) := by
  unfold argsW
  rw [List.zipIdx_cons, List.flatMap_cons, args_go l _ (by omega)]
  rfl
theorem itoa_ne (n : Int) : Lib.itoa n ≠ [] := by
  unfold Lib.itoa
  split
  · simp
  · exact (dec_all _).2.2
theorem args_inj {A B : List Int} (h : argsW A = argsW B) : A = B := by
  have h0 : argsW [] = [] := rfl
  cases A with
  | nil =>
    cases B with
    | nil => rfl
    | cons b B =>
      rw [h0, args_cons] at h
      exact absurd (List.append_eq_nil_iff.1 h.symm).1 (itoa_ne b)
  | cons a A =>
    cases B with
    | nil =>
      rw [h0, args_cons] at h
      exact absurd (List.append_eq_nil_iff.1 h).1 (itoa_ne a)
    | cons b B =>
      rw [args_cons, args_cons] at h
      have hm : ∀ {L : List Int}, ∀ w ∈ L.map Lib.itoa, w.all numC = true := fun w hw => by
        obtain ⟨x, -, rfl⟩ := List.mem_map.1 hw
        exact itoa_all x
      obtain ⟨h1, h2⟩ := comma_inj (p := numC) (by rfl) (itoa_all a) (itoa_all b) hm hm h
      rw [itoa_inj h1, map_inj_on (fun x _ y _ e => itoa_inj e) h2]
def cmC (c : UInt8) : Bool := numC c || decide (c.toNat = 44)
theorem cm_sep {L : List (List UInt8)} {p q : UInt8 → Bool} (hq : ∀ c, p c = true → q c = true) (h44 : q 44 = true) : (∀ w ∈ L, w.all p = true) → (sepW 44 L).all q = true := by
  intro h
  rw [List.all_eq_true]
  intro c hc
  unfold sepW at hc
  obtain ⟨w, hw, hc⟩ := List.mem_flatMap.1 hc
  rcases List.mem_cons.1 hc with rfl | hc
  · exact h44
  · exact hq c (List.all_eq_true.1 (h w hw) c hc)
theorem args_all (l : List Int) : (argsW l).all cmC = true := by
  cases l with
  | nil => rfl
  | cons a l =>
    rw [args_cons, List.all_append, Bool.and_eq_true]
    have hq : ∀ c, numC c = true → cmC c = true := fun c h => by unfold cmC; rw [h]; rfl
    refine ⟨?_, cm_sep hq rfl (fun w hw => ?_)⟩
    · rw [List.all_eq_true]; exact fun c hc => hq c (List.all_eq_true.1 (itoa_all a) c hc)
    · obtain ⟨x, -, rfl⟩ := List.mem_map.1 hw
      exact itoa_all x
theorem join_cons (a : List UInt8) (l : List (List UInt8)) : Lib.join (a :: l) [44] = a ++ sepW 44 l := by
  induction l generalizing a with
  | nil => simp [Lib.join, sepW]
  | cons b l ih =>
    rw [sepW_cons, ← ih b]
    simp [Lib.join]
theorem bs_inj {a b : ByteArray} (h : bs a = bs b) : a = b := by
  cases a; cases b
  unfold bs at h
  simpa using h
theorem raises_inj {A B : List ByteArray} (hA : ∀ x ∈ A, (bs x).all syC = true) (hB : ∀ x ∈ B, (bs x).all syC = true) (h : raisesW A = raisesW B) : A = B := by
  have hm : ∀ {L : List ByteArray}, (∀ x ∈ L, (bs x).all syC = true) → ∀ w ∈ L.map bs, w.all syC = true := fun hL w hw => by
    obtain ⟨x, hx, rfl⟩ := List.mem_map.1 hw
    exact hL x hx
  have hc : ∀ (a : ByteArray) (l : List ByteArray), raisesW (a :: l) = 33 :: (bs a ++ sepW 44 (l.map bs)) := fun a l => by
    unfold raisesW
    rw [if_neg (by simp), List.map_cons, join_cons]; rfl
  cases A with
  | nil =>
    cases B with
    | nil => rfl
    | cons b B => rw [hc] at h; cases h
  | cons a A =>
    cases B with
    | nil => rw [hc] at h; cases h
    | cons b B =>
      rw [hc, hc, List.cons.injEq] at h
      obtain ⟨h1, h2⟩ := comma_inj (p := syC) (by rfl) (hA a (by simp)) (hB b (by simp)) (hm fun x hx => hA x (by simp [hx])) (hm fun x hx => hB x (by simp [hx])) h.2
      rw [bs_inj h1, map_inj_on (fun x _ y _ e => bs_inj e) h2]
def raC (c : UInt8) : Bool := syC c || decide (c.toNat = 44 ∨ c.toNat = 33)
theorem raises_all {A : List ByteArray} (hA : ∀ x ∈ A, (bs x).all syC = true) : (raisesW A).all raC = true := by
  have hq : ∀ c, syC c = true → raC c = true := fun c h => by unfold raC; rw [h]; rfl
  cases A with
  | nil => rfl
  | cons a A =>
    have e : raisesW (a :: A) = 33 :: (bs a ++ sepW 44 (A.map bs)) := by
      unfold raisesW
      rw [if_neg (by simp), List.map_cons, join_cons]; rfl
    rw [e, List.all_cons, List.all_append, Bool.and_eq_true, Bool.and_eq_true]
    refine ⟨rfl, ?_, cm_sep hq rfl (fun w hw => ?_)⟩
    · rw [List.all_eq_true]; exact fun c hc => hq c (List.all_eq_true.1 (hA a (by simp)) c hc)
    · obtain ⟨x, hx, rfl⟩ := List.mem_map.1 hw
      exact hA x (by simp [hx])
theorem res_all (r : Int) : (resW r).all numC = true := by
  unfold resW
  split
  · rfl
  · exact itoa_all r
theorem res_inj {r s : Int} (hr : r = -1 ∨ 0 ≤ r) (hs : s = -1 ∨ 0 ≤ s) (h : resW r = resW s) : r = s := by
  have hn : ∀ {x : Int}, 0 ≤ x → [45] = Lib.itoa x → False := fun hx e => by
    have := (itoa_dec hx).1
    rw [← e] at this; exact absurd this (by decide)
  unfold resW at h
  by_cases h1 : r = -1
  · by_cases h2 : s = -1
    · omega
    · rw [if_pos h1, if_neg h2] at h; exact (hn (by omega) h).elim
  · by_cases h2 : s = -1
    · rw [if_neg h1, if_pos h2] at h; exact (hn (by omega) h.symm).elim
    · rw [if_neg h1, if_neg h2] at h; exact itoa_inj h
theorem proc_head {s : ByteArray} {c : UInt8} (h : (procW s).head? = some c) : c = 61 := by
  unfold procW at h
  split at h
  · cases h
  · simpa using h.symm
theorem proc_inj {s t : ByteArray} (h : procW s = procW t) : s = t := by
  have hz : ∀ {x : ByteArray}, x.size = 0 → bs x = [] := fun hx => List.length_eq_zero_iff.1 (by rw [bs_len]; exact hx)
  unfold procW at h
  by_cases h1 : s.size = 0
  · by_cases h2 : t.size = 0
    · exact bs_inj (by rw [hz h1, hz h2])
    · rw [if_pos h1, if_neg h2] at h; cases h
  · by_cases h2 : t.size = 0
    · rw [if_neg h1, if_pos h2] at h; cases h
    · rw [if_neg h1, if_neg h2, List.cons.injEq] at h
      exact bs_inj h.2
structure MLn (m : MethD) : Prop where
  name : (bs m.name).all alC = true
  proc : (bs m.proc).all syC = true
  res : m.result = -1 ∨ 0 ≤ m.result
  raises : ∀ x ∈ m.raises, (bs x).all syC = true
def mW (m : MethD) : List UInt8 := bs m.name ++ 40 :: (argsW m.args ++ 41 :: (resW m.result ++ (raisesW m.raises ++ procW m.proc)))
theorem methW_m (m : MethD) : methW m = 32 :: mW m := by
  unfold methW mW sigW bs
  simp [List.append_assoc]
theorem mW_inj {a b : MethD} (ha : MLn a) (hb : MLn b) (h : mW a = mW b) : a = b := by
  unfold mW at h
  obtain ⟨h1, h⟩ := span_inj ha.name hb.name (fun c hc => by simp at hc; subst hc; rfl) (fun c hc => by simp at hc; subst hc; rfl) h
  rw [List.cons.injEq] at h
  obtain ⟨h2, h⟩ := span_inj (args_all _) (args_all _) (fun c hc => by simp at hc; subst hc; rfl) (fun c hc => by simp at hc; subst hc; rfl) h.2
  rw [List.cons.injEq] at h
  have hd : ∀ (m : MethD) (c : UInt8), (raisesW m.raises ++ procW m.proc).head? = some c → c = 33 ∨ c = 61 := fun m c hc => by
    unfold raisesW at hc
    split at hc
    · exact .inr (proc_head hc)
    · exact .inl (by simpa using hc.symm)
  have hs : ∀ (m : MethD) (c : UInt8), (raisesW m.raises ++ procW m.proc).head? = some c → numC c = false := fun m c hc => by
    rcases hd m c hc with rfl | rfl <;> rfl
  obtain ⟨h3, h⟩ := span_inj (res_all _) (res_all _) (hs a) (hs b) h.2
  obtain ⟨h4, h⟩ := span_inj (raises_all ha.raises) (raises_all hb.raises) (fun c hc => by rw [proc_head hc]; rfl) (fun c hc => by rw [proc_head hc]; rfl) h
  have e1 := bs_inj h1
  have e2 := args_inj h2
  have e3 := res_inj ha.res hb.res h3
  have e4 := raises_inj ha.raises hb.raises h4
  have e5 := proc_inj h
  cases a; cases b
  simp only at e1 e2 e3 e4 e5
  subst e1 e2 e3 e4 e5
  rfl
def pW (p : PartD) : List UInt8 := bs p.name ++ 58 :: Lib.itoa p.type
def oW (p : OverD) : List UInt8 := bs p.name ++ 61 :: bs p.proc
theorem partW_p (p : PartD) : partW p = 32 :: pW p := by
  unfold partW pW bs; simp
theorem overW_o (p : OverD) : overW p = 32 :: oW p := by
  unfold overW oW bs; simp
theorem pW_inj {a b : PartD} (ha : (bs a.name).all alC = true) (hb : (bs b.name).all alC = true) (h : pW a = pW b) : a = b := by
  unfold pW at h
  obtain ⟨h1, h⟩ := span_inj ha hb (fun c hc => by simp at hc; subst hc; rfl) (fun c hc => by simp at hc; subst hc; rfl) h
  rw [List.cons.injEq] at h
  have e1 := bs_inj h1
  have e2 := itoa_inj h.2
  cases a; cases b
  simp only at e1 e2
  subst e1 e2
  rfl
theorem oW_inj {a b : OverD} (ha : (bs a.name).all alC = true) (hb : (bs b.name).all alC = true) (h : oW a = oW b) : a = b := by
  unfold oW at h
  obtain ⟨h1, h⟩ := span_inj ha hb (fun c hc => by simp at hc; subst hc; rfl) (fun c hc => by simp at hc; subst hc; rfl) h
  rw [List.cons.injEq] at h
  have e1 := bs_inj h1
  have e2 := bs_inj h.2
  cases a; cases b
  simp only at e1 e2
  subst e1 e2
  rfl
structure TLn (t : TyD) : Prop where
  bnd : t.kind ≠ 3 → t.low = 0 ∧ t.high = 0
  brand : (bs t.brand).all brC = true
  noBrand : t.branded = false → bs t.brand = []
  noBr : t.kind ≠ 9 → t.kind ≠ 10 → t.kind ≠ 11 → t.kind ≠ 12 → t.branded = false
  opq : (bs t.opq).all syC = true
  noOpq : t.kind ≠ 13 → bs t.opq = []
  noSup : t.kind ≠ 12 → t.kind ≠ 13 → t.super = 0
  parts : ∀ p ∈ t.parts, (bs p.name).all alC = true
  noP : t.kind ≠ 9 → t.kind ≠ 10 → t.kind ≠ 11 → t.kind ≠ 12 → t.parts = []
  meths : ∀ m ∈ t.meths, MLn m
  noM : t.kind ≠ 12 → t.meths = []
  overs : ∀ p ∈ t.overs, (bs p.name).all alC = true ∧ (bs p.proc).all syC = true
  noO : t.kind ≠ 12 → t.overs = []
def tagW (w : List UInt8) : Option UInt8 := (w.dropWhile alC).head?
theorem tag_at {l : List UInt8} {c : UInt8} {r : List UInt8} (hl : l.all alC = true) (hc : alC c = false) : tagW (l ++ c :: r) = some c := by
  unfold tagW
  rw [List.dropWhile_append_of_pos (by simpa [List.all_eq_true] using hl), List.dropWhile_cons_of_neg (by rw [hc]; simp)]
  rfl
theorem filter_mid {α : Type} {p : α → Bool} {A B C : List α} (hA : ∀ x ∈ A, p x = false) (hB : ∀ x ∈ B, p x = true) (hC : ∀ x ∈ C, p x = false) : (A ++ (B ++ C)).filter p = B := by
  rw [List.filter_append, List.filter_append, List.filter_eq_nil_iff.2 (fun x hx => by rw [hA x hx]; simp), List.filter_eq_self.2 hB, List.filter_eq_nil_iff.2 (fun x hx => by rw [hC x hx]; simp)]
  simp
def wdC (c : UInt8) : Bool := decide (c.toNat ≠ 32) && decide (c.toNat ≠ 10)
theorem wd_no {l : List UInt8} (h : l.all wdC = true) : (32 : UInt8) ∉ l := not_mem_of h (by rfl)
theorem num_wd {c : UInt8} (h : numC c = true) : wdC c = true := by
  rw [numC_iff] at h
  unfold wdC
  rw [Bool.and_eq_true, decide_eq_true_iff, decide_eq_true_iff]; omega
theorem sy_wd {c : UInt8} (h : syC c = true) : wdC c = true := by
  rw [syC_iff] at h
  unfold wdC
  rw [Bool.and_eq_true, decide_eq_true_iff, decide_eq_true_iff]; omega
theorem al_wd {c : UInt8} (h : alC c = true) : wdC c = true := sy_wd (by unfold syC; rw [h]; rfl)
theorem all_imp {p q : UInt8 → Bool} {l : List UInt8} (hq : ∀ c, p c = true → q c = true) (h : l.all p = true) : l.all q = true := by
  rw [List.all_eq_true] at h ⊢
  exact fun c hc => hq c (h c hc)
theorem cm_wd {c : UInt8} (h : cmC c = true) : wdC c = true := by
  unfold cmC at h
  rw [Bool.or_eq_true, decide_eq_true_iff] at h
  rcases h with h | h
  · exact num_wd h
  · unfold wdC
    rw [Bool.and_eq_true, decide_eq_true_iff, decide_eq_true_iff]; omega
theorem ra_wd {c : UInt8} (h : raC c = true) : wdC c = true := by
  unfold raC at h
  rw [Bool.or_eq_true, decide_eq_true_iff] at h
  rcases h with h | h
  · exact sy_wd h
  · unfold wdC
    rw [Bool.and_eq_true, decide_eq_true_iff, decide_eq_true_iff]; omega
theorem itoa_wd (x : Int) : (Lib.itoa x).all wdC = true := all_imp (fun _ => num_wd) (itoa_all x)
theorem pW_wd {p : PartD} (h : (bs p.name).all alC = true) : (pW p).all wdC = true := by
  unfold pW
  rw [List.all_append, List.all_cons, all_imp (fun _ => al_wd) h, itoa_wd]; rfl
theorem oW_wd {p : OverD} (h : (bs p.name).all alC = true) (h2 : (bs p.proc).all syC = true) : (oW p).all wdC = true := by
  unfold oW
  rw [List.all_append, List.all_cons, all_imp (fun _ => al_wd) h, all_imp (fun _ => sy_wd) h2]; rfl
theorem procW_wd {s : ByteArray} (h : (bs s).all syC = true) : (procW s).all wdC = true := by
  unfold procW
  split
  · rfl
  · rw [List.all_cons, show s.data.toList = bs s from rfl, all_imp (fun _ => sy_wd) h]; rfl
theorem mW_wd {m : MethD} (h : MLn m) : (mW m).all wdC = true := by
  unfold mW
  rw [List.all_append, List.all_cons, List.all_append, List.all_cons, List.all_append, List.all_append, all_imp (fun _ => al_wd) h.name, all_imp (fun _ => cm_wd) (args_all _), all_imp (fun _ => num_wd) (res_all _), all_imp (fun _ => ra_wd) (raises_all h.raises), procW_wd h.proc]; rfl
def wordsT (t : TyD) : List (List UInt8) := match t.kind with
  | 3 => [Lib.itoa t.low, Lib.itoa t.high]
  | 9 | 10 | 11 => t.parts.map pW
  | 12 => Lib.itoa t.super :: (t.parts.map pW ++ (t.meths.map mW ++ t.overs.map oW))
  | 13 => [bs t.opq, Lib.itoa t.super]
  | _ => []
def headT (t : TyD) : List UInt8 := match t.kind with
  | 9 | 10 | 11 | 12 => brandW t
  | _ => []
theorem words_wd {t : TyD} (h : TLn t) : ∀ w ∈ wordsT t, w.all wdC = true := by
  have hp : ∀ w ∈ t.parts.map pW, w.all wdC = true := fun w hw => by
    obtain ⟨p, hp, rfl⟩ := List.mem_map.1 hw
    exact pW_wd (h.parts p hp)
  intro w hw
  unfold wordsT at hw
  split at hw
  · rcases List.mem_cons.1 hw with rfl | hw
    · exact itoa_wd _
    · rw [List.mem_singleton] at hw; rw [hw]; exact itoa_wd _
  · exact hp w hw
  · exact hp w hw
  · exact hp w hw
  · rcases List.mem_cons.1 hw with rfl | hw
    · exact itoa_wd _
    · rcases List.mem_append.1 hw with hw | hw
      · exact hp w hw
      · rcases List.mem_append.1 hw with hw | hw
        · obtain ⟨p, hp, rfl⟩ := List.mem_map.1 hw
          exact mW_wd (h.meths p hp)
        · obtain ⟨p, hp, rfl⟩ := List.mem_map.1 hw
          exact oW_wd (h.overs p hp).1 (h.overs p hp).2
  · rcases List.mem_cons.1 hw with rfl | hw
    · exact all_imp (fun _ => sy_wd) h.opq
    · rw [List.mem_singleton] at hw; rw [hw]; exact itoa_wd _
  · cases hw
theorem flat_sep {α : Type} {f g : α → List UInt8} (h : ∀ x, f x = 32 :: g x) (l : List α) : l.flatMap f = sepW 32 (l.map g) := by
  induction l with
  | nil => rfl
  | cons a l ih => rw [List.flatMap_cons, List.map_cons, sepW_cons, ih, h]; rfl
theorem lead_words (t : TyD) : leadW t = headT t ++ sepW 32 (wordsT t) := by
  have hf : fieldsW t.parts = sepW 32 (t.parts.map pW) := by unfold fieldsW; exact flat_sep partW_p _
  have hm : methsW t.meths = sepW 32 (t.meths.map mW) := by unfold methsW; exact flat_sep methW_m _
  have ho : oversW t.overs = sepW 32 (t.overs.map oW) := by unfold oversW; exact flat_sep overW_o _
  unfold leadW headT wordsT
  split
  · rename_i e
    simp [e, boundsW, sepW]
  · rename_i e
    unfold fieldsT
    rw [hf]
    simp only [e]
  · rename_i e
    unfold fieldsT
    rw [hf]
    simp only [e]
  · rename_i e
    unfold fieldsT
    rw [hf]
    simp only [e]
  · rename_i e
    rw [e]; unfold objT superW
    rw [hf, hm, ho]
    simp only [sepW_cons, sepW_append, List.append_assoc, List.cons_append]
  · rename_i e
    rw [e]; unfold opqT superW opaqueW
    simp [sepW, bs]
  · rename_i h3 h9 h10 h11 h12 h13
    split
    · exact (h9 ‹_›).elim
    · exact (h10 ‹_›).elim
    · exact (h11 ‹_›).elim
    · exact (h12 ‹_›).elim
    · split
      · exact (h3 ‹_›).elim
      · exact (h9 ‹_›).elim
      · exact (h10 ‹_›).elim
      · exact (h11 ‹_›).elim
      · exact (h12 ‹_›).elim
      · exact (h13 ‹_›).elim
      · rfl
theorem lead_head {t : TyD} {c : UInt8} (h : (leadW t).head? = some c) : c = 32 := by
  rw [lead_words] at h
  have hb : (brandW t).head? = some 32 := by unfold brandW; split <;> rfl
  have hb' : ∀ r : List UInt8, (brandW t ++ r).head? = some 32 := fun r => by
    cases hx : brandW t with
    | nil => rw [hx] at hb; cases hb
    | cons x l => rw [hx] at hb; exact hb
  unfold headT at h
  split at h
  · rw [hb'] at h; exact (Option.some.inj h).symm
  · rw [hb'] at h; exact (Option.some.inj h).symm
  · rw [hb'] at h; exact (Option.some.inj h).symm
  · rw [hb'] at h; exact (Option.some.inj h).symm
  · exact sepW_head h
theorem brand_inj {a b : TyD} (ha : TLn a) (hb : TLn b) {r s : List UInt8} (h : brandW a ++ r = brandW b ++ s) : a.branded = b.branded ∧ bs a.brand = bs b.brand ∧ r = s := by
  unfold brandW at h
  cases h1 : a.branded with
  | true =>
    cases h2 : b.branded with
    | true =>
      rw [h1, h2] at h
      simp only [if_true, List.append_assoc, List.cons_append, List.nil_append, List.cons.injEq, true_and] at h
      obtain ⟨e1, e2⟩ := span_inj (p := brC) ha.brand hb.brand (fun c hc => by simp at hc; subst hc; rfl) (fun c hc => by simp at hc; subst hc; rfl) h
      rw [List.cons.injEq] at e2
      exact ⟨rfl, e1, e2.2⟩
    | false =>
      rw [h1, h2] at h
      simp at h
  | false =>
    cases h2 : b.branded with
    | true =>
      rw [h1, h2] at h
      simp at h
    | false =>
      rw [h1, h2] at h
      refine ⟨rfl, by rw [ha.noBrand h1, hb.noBrand h2], ?_⟩
      simpa using h
theorem obj_words {a b : TyD} (ha : TLn a) (hb : TLn b) (h : a.parts.map pW ++ (a.meths.map mW ++ a.overs.map oW) = b.parts.map pW ++ (b.meths.map mW ++ b.overs.map oW)) : a.parts = b.parts ∧ a.meths = b.meths ∧ a.overs = b.overs := by
  have tp : ∀ {t : TyD}, TLn t → ∀ w ∈ t.parts.map pW, tagW w = some 58 := fun ht w hw => by
    obtain ⟨p, hp, rfl⟩ := List.mem_map.1 hw
    exact tag_at (ht.parts p hp) rfl
  have tm : ∀ {t : TyD}, TLn t → ∀ w ∈ t.meths.map mW, tagW w = some 40 := fun ht w hw => by
    obtain ⟨p, hp, rfl⟩ := List.mem_map.1 hw
    exact tag_at (ht.meths p hp).name rfl
  have tov : ∀ {t : TyD}, TLn t → ∀ w ∈ t.overs.map oW, tagW w = some 61 := fun ht w hw => by
    obtain ⟨p, hp, rfl⟩ := List.mem_map.1 hw
    exact tag_at (ht.overs p hp).1 rfl
  have f1 : ∀ {t : TyD}, TLn t → (t.parts.map pW ++ (t.meths.map mW ++ t.overs.map oW)).filter (fun w => tagW w == some 58) = t.parts.map pW := fun ht =>
    filter_mid (A := []) (fun x hx => by cases hx) (fun x hx => by rw [tp ht x hx]; rfl) (fun x hx => by
      rcases List.mem_append.1 hx with hx | hx
      · rw [tm ht x hx]; rfl
      · rw [tov ht x hx]; rfl)
  have f2 : ∀ {t : TyD}, TLn t → (t.parts.map pW ++ (t.meths.map mW ++ t.overs.map oW)).filter (fun w => tagW w == some 40) = t.meths.map mW := fun ht =>
    filter_mid (fun x hx => by rw [tp ht x hx]; rfl) (fun x hx => by rw [tm ht x hx]; rfl) (fun x hx => by rw [tov ht x hx]; rfl)
  have f3 : ∀ {t : TyD}, TLn t → (t.parts.map pW ++ (t.meths.map mW ++ t.overs.map oW)).filter (fun w => tagW w == some 61) = t.overs.map oW := fun {t} ht => by
    have := filter_mid (p := fun w => tagW w == some 61) (A := t.parts.map pW ++ t.meths.map mW) (B := t.overs.map oW) (C := []) (fun x hx => by
      rcases List.mem_append.1 hx with hx | hx
      · rw [tp ht x hx]; rfl
      · rw [tm ht x hx]; rfl) (fun x hx => by rw [tov ht x hx]; rfl) (fun x hx => by cases hx)
    rw [List.append_nil, List.append_assoc] at this
    exact this
  have e1 := congrArg (List.filter (fun w => tagW w == some 58)) h
  have e2 := congrArg (List.filter (fun w => tagW w == some 40)) h
  have e3 := congrArg (List.filter (fun w => tagW w == some 61)) h
  rw [f1 ha, f1 hb] at e1
  rw [f2 ha, f2 hb] at e2
  rw [f3 ha, f3 hb] at e3
  exact ⟨map_inj_on (fun x hx y hy e => pW_inj (ha.parts x hx) (hb.parts y hy) e) e1, map_inj_on (fun x hx y hy e => mW_inj (ha.meths x hx) (hb.meths y hy) e) e2, map_inj_on (fun x hx y hy e => oW_inj (ha.overs x hx).1 (hb.overs y hy).1 e) e3⟩
theorem ty_eq {a b : TyD} (h1 : a.kind = b.kind) (h2 : a.low = b.low ∧ a.high = b.high) (h3 : a.branded = b.branded) (h4 : bs a.brand = bs b.brand) (h5 : bs a.opq = bs b.opq) (h6 : a.super = b.super) (h7 : a.parts = b.parts) (h8 : a.meths = b.meths) (h9 : a.overs = b.overs) : a = b := by
  obtain ⟨h2, h2'⟩ := h2
  have h4' := bs_inj h4
  have h5' := bs_inj h5
  clear h4 h5
  cases a; cases b
  simp only at h1 h2 h2' h3 h4' h5' h6 h7 h8 h9
  subst h1 h2 h2' h3 h4' h5' h6 h7 h8 h9
  rfl
theorem line_inj {a b : TyD} (ha : TLn a) (hb : TLn b) (h : lineW a = lineW b) : a = b := by
  unfold lineW at h
  have h := List.append_cancel_right h
  obtain ⟨hk, h⟩ := itoa_span (fun c hc => by rw [lead_head hc]; rfl) (fun c hc => by rw [lead_head hc]; rfl) h
  have hk : a.kind = b.kind := by omega
  rw [lead_words, lead_words] at h
  have hw : ∀ {r s : List (List UInt8)}, r = wordsT a → s = wordsT b → sepW 32 r = sepW 32 s → r = s := fun e1 e2 e => by
    subst e1 e2
    exact sep_inj (fun w hw => wd_no (words_wd ha w hw)) (fun w hw => wd_no (words_wd hb w hw)) e
  have nb : a.kind ≠ 9 → a.kind ≠ 10 → a.kind ≠ 11 → a.kind ≠ 12 → a.branded = b.branded ∧ bs a.brand = bs b.brand ∧ a.parts = b.parts := fun k1 k2 k3 k4 => by
    have e1 := ha.noBr k1 k2 k3 k4
    have e2 := hb.noBr (by omega) (by omega) (by omega) (by omega)
    exact ⟨by rw [e1, e2], by rw [ha.noBrand e1, hb.noBrand e2], by rw [ha.noP k1 k2 k3 k4, hb.noP (by omega) (by omega) (by omega) (by omega)]⟩
  have nl : a.kind ≠ 3 → a.low = b.low ∧ a.high = b.high := fun k => by
    have e1 := ha.bnd k
    have e2 := hb.bnd (by omega)
    exact ⟨by rw [e1.1, e2.1], by rw [e1.2, e2.2]⟩
  have nq : a.kind ≠ 13 → bs a.opq = bs b.opq := fun k => by rw [ha.noOpq k, hb.noOpq (by omega)]
  have ns : a.kind ≠ 12 → a.kind ≠ 13 → a.super = b.super := fun k1 k2 => by rw [ha.noSup k1 k2, hb.noSup (by omega) (by omega)]
  have nm : a.kind ≠ 12 → a.meths = b.meths ∧ a.overs = b.overs := fun k => ⟨by rw [ha.noM k, hb.noM (by omega)], by rw [ha.noO k, hb.noO (by omega)]⟩
  have fl : (a.kind = 9 ∨ a.kind = 10 ∨ a.kind = 11) → a = b := fun hk' => by
    have x1 : headT a = brandW a ∧ wordsT a = a.parts.map pW := by
      rcases hk' with e | e | e <;> (unfold headT wordsT; rw [e]; exact ⟨rfl, rfl⟩)
    have x2 : headT b = brandW b ∧ wordsT b = b.parts.map pW := by
      rcases hk' with e | e | e <;> (unfold headT wordsT; rw [← hk, e]; exact ⟨rfl, rfl⟩)
    rw [x1.1, x2.1] at h
    obtain ⟨g1, g2, g3⟩ := brand_inj ha hb h
    have g4 := hw rfl rfl g3
    rw [x1.2, x2.2] at g4
    exact ty_eq hk (nl (by omega)) g1 g2 (nq (by omega)) (ns (by omega) (by omega)) (map_inj_on (fun x hx y hy e => pW_inj (ha.parts x hx) (hb.parts y hy) e) g4) (nm (by omega)).1 (nm (by omega)).2
  by_cases k3 : a.kind = 3
  · have x1 : headT a = [] ∧ wordsT a = [Lib.itoa a.low, Lib.itoa a.high] := by unfold headT wordsT; rw [k3]; exact ⟨rfl, rfl⟩
    have x2 : headT b = [] ∧ wordsT b = [Lib.itoa b.low, Lib.itoa b.high] := by unfold headT wordsT; rw [← hk, k3]; exact ⟨rfl, rfl⟩
    rw [x1.1, x2.1] at h
    have g := hw rfl rfl h
    rw [x1.2, x2.2] at g
    simp only [List.cons.injEq, and_true] at g
    have n := nb (by omega) (by omega) (by omega) (by omega)
    exact ty_eq hk ⟨itoa_inj g.1, itoa_inj g.2⟩ n.1 n.2.1 (nq (by omega)) (ns (by omega) (by omega)) n.2.2 (nm (by omega)).1 (nm (by omega)).2
  by_cases k9 : a.kind = 9 ∨ a.kind = 10 ∨ a.kind = 11
  · exact fl k9
  by_cases k12 : a.kind = 12
  · have x1 : headT a = brandW a ∧ wordsT a = Lib.itoa a.super :: (a.parts.map pW ++ (a.meths.map mW ++ a.overs.map oW)) := by unfold headT wordsT; rw [k12]; exact ⟨rfl, rfl⟩
    have x2 : headT b = brandW b ∧ wordsT b = Lib.itoa b.super :: (b.parts.map pW ++ (b.meths.map mW ++ b.overs.map oW)) := by unfold headT wordsT; rw [← hk, k12]; exact ⟨rfl, rfl⟩
    rw [x1.1, x2.1] at h
    obtain ⟨g1, g2, g3⟩ := brand_inj ha hb h
    have g4 := hw rfl rfl g3
    rw [x1.2, x2.2, List.cons.injEq] at g4
    obtain ⟨y1, y2, y3⟩ := obj_words ha hb g4.2
    exact ty_eq hk (nl (by omega)) g1 g2 (nq (by omega)) (itoa_inj g4.1) y1 y2 y3
  have n := nb (by omega) (by omega) (by omega) (by omega)
  by_cases k13 : a.kind = 13
  · have x1 : headT a = [] ∧ wordsT a = [bs a.opq, Lib.itoa a.super] := by unfold headT wordsT; rw [k13]; exact ⟨rfl, rfl⟩
    have x2 : headT b = [] ∧ wordsT b = [bs b.opq, Lib.itoa b.super] := by unfold headT wordsT; rw [← hk, k13]; exact ⟨rfl, rfl⟩
    rw [x1.1, x2.1] at h
    have g := hw rfl rfl h
    rw [x1.2, x2.2] at g
    simp only [List.cons.injEq, and_true] at g
    exact ty_eq hk (nl (by omega)) n.1 n.2.1 g.1 (itoa_inj g.2) n.2.2 (nm (by omega)).1 (nm (by omega)).2
  exact ty_eq hk (nl k3) n.1 n.2.1 (nq k13) (ns k12 k13) n.2.2 (nm k12).1 (nm k12).2
theorem line_ten {t : TyD} (h : TLn t) : ∃ l, lineW t = l ++ [10] ∧ (10 : UInt8) ∉ l := by
  refine ⟨Lib.itoa t.kind ++ leadW t, rfl, fun hm => ?_⟩
  have hw : ∀ {l : List UInt8}, l.all wdC = true → (10 : UInt8) ∉ l := fun hl => not_mem_of hl (by rfl)
  rcases List.mem_append.1 hm with hm | hm
  · exact hw (itoa_wd _) hm
  rw [lead_words] at hm
  rcases List.mem_append.1 hm with hm | hm
  · have hb : (10 : UInt8) ∉ brandW t := fun hm => by
      unfold brandW at hm
      split at hm
      · have := not_mem_of (s := 10) (p := brC) h.brand (by rfl)
        simp only [List.mem_append, List.mem_cons, List.not_mem_nil, or_false] at hm
        rcases hm with (hm | hm) | hm | hm
        · exact absurd hm (by decide)
        · exact absurd hm (by decide)
        · exact this hm
        · exact absurd hm (by decide)
      · exact absurd hm (by decide)
    unfold headT at hm
    split at hm
    all_goals first | exact hb hm | exact absurd hm List.not_mem_nil
  · unfold sepW at hm
    obtain ⟨w, h1, h2⟩ := List.mem_flatMap.1 hm
    rcases List.mem_cons.1 h2 with h2 | h2
    · exact absurd h2 (by decide)
    · exact hw (words_wd h w h1) h2
end Go.Proofs.YteaokkaidcbdlaaGreatDoor

