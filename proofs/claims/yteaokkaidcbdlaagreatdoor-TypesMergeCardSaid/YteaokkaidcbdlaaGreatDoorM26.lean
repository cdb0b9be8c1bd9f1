/- Part 26 of 53: the texts Cn, Tu, Cw, Yk, Za, one behind the other. -/
import Derived.Test.YteaokkaidcbdlaaGreatDoorM25
import Derived.Laws.Cover3
import Derived.Test.YteaokkaidcbdlaaGreatDoorM22
import Derived.Test.YteaokkaidcbdlaaGreatDoorM1
import Derived.Test.YteaokkaidcbdlaaGreatDoorM24
import Derived.Test.YteaokkaidcbdlaaGreatDoorM4
import Derived.Test.YteaokkaidcbdlaaGreatDoorM20
namespace Go.Proofs.YteaokkaidcbdlaaGreatDoor
open Go Go.RowKit Go.Shelf
theorem add_addr (b off j : Nat) : (⟨b, off, none⟩ : Addr).add j = ⟨b, off + j, none⟩ := by
 unfold Addr.add
 split
 ·rename_i h; subst h; rfl
 ·rfl
theorem eql_slice_nil (w : World) (t e : TypeId) (a : Option Addr) (l c : Nat) (h : Tryz.prog.underlying t = some (.slice e)) : (binOp .eql t (.slice a l c) (.slice none 0 0)).run Tryz.prog w = .ok (.bool a.isNone) w := by
 simp only [binOp]
 simp [run_equal_slice_nil w t e a l c h]
theorem info93 : (Tryz.prog.info? 93).map (fun i => (i.zero, i.size, i.bytes)) = some (some (.agg #[.string ⟨#[]⟩, .int .i64 0]), 2, 24) := by kernel_rfl
theorem info116 : (Tryz.prog.info? 116).map (fun i => (i.zero, i.size, i.bytes)) = some (some (.agg #[.string ⟨#[]⟩, .string ⟨#[]⟩]), 2, 32) := by kernel_rfl
theorem info74 : (Tryz.prog.info? 74).map (fun i => (i.zero, i.size, i.bytes)) = some (some (.agg #[.string ⟨#[]⟩, .slice none 0 0, .int .i64 0, .slice none 0 0, .string ⟨#[]⟩]), 5, 88) := by kernel_rfl
set_option maxRecDepth 100000 in
theorem clone119 (ad : Addr) (n c : Nat) (xs : List Value) (w : World) (hx : xs.length = n * 2) (hc : ∀ j u, xs[j]? = some u → w.cell? (ad.add j) = some u) (h1 : ∀ u ∈ xs, u.oneCell' = true) (hn : n ≤ 100000) :
    Calls Tryz.prog 119 #[.slice (some ad) n c] w fun e w' => ∃ v', e = .returned v' ∧ w'.ownsRow w.heap.size 93 2 v' n xs ∧ Below w.heap.size w w' := by
  obtain ⟨i0, hi0, hz0, hz1, hz2⟩ := info_parts info93
  have hb0 : Below w.heap.size w (w.alloc (.cells #[] 93)) := (Below.refl _ _).alloc (Nat.le_refl _) _
  have hc' : ∀ j u, xs[j]? = some u → (w.alloc (.cells #[] 93)).cell? (ad.add j) = some u := fun j u hj => Holds.below hb0 _ _ (hc j u hj)
  have hown0 : (w.alloc (.cells #[] 93)).ownsRow w.heap.size 93 2 (.slice (some ⟨w.heap.size, 0, none⟩) 0 0) 0 [] := ⟨rfl, .inr ⟨_, 0, #[], rfl, Nat.le_refl _, World.alloc_heap_new w _, Nat.le_refl _, by decide, rfl, rfl⟩⟩
  have heq := fun w => eql_slice_nil w 58 93 (some ad) n c Tryz.underlying58
  simp only [Option.isNone_some] at heq
  go_enter Tryz.func119, Tryz.ntmps119
  go_wp2_with (at_builtin; refine wpList_append_own _ rfl _ _ 58 rfl w.heap.size 93 i0 (.agg #[.string ⟨#[]⟩, .int .i64 0]) 2 24 Tryz.underlying58 hi0 hz0 hz1 hz2 rfl (by decide) _ 0 [] rfl hown0 ad n c xs rfl hx hc' h1 (by unfold maxLen; omega) (by omega) (by simp) ?_)
  intro v' w1 hown' hgrow _
  go_wp2
  go_ret
  exact ⟨v', rfl, hown', hb0.grown hgrow (by simp) (fun j e => by have := (hown0.lt j e).1; omega)⟩
set_option maxRecDepth 100000 in
theorem clone119_nil (n c : Nat) (w : World) : Calls Tryz.prog 119 #[.slice none n c] w fun e w' => e = .returned (.slice none 0 0) ∧ w' = w := by
 have heq := fun w => eql_slice_nil w 58 93 none n c Tryz.underlying58
 simp only [Option.isNone_none] at heq
 go_enter Tryz.func119, Tryz.ntmps119
 go_wp2
 go_ret
 exact ⟨rfl, rfl⟩
set_option maxRecDepth 100000 in
theorem clone120 (ad : Addr) (n c : Nat) (xs : List Value) (w : World) (hx : xs.length = n * 2) (hc : ∀ j u, xs[j]? = some u → w.cell? (ad.add j) = some u) (h1 : ∀ u ∈ xs, u.oneCell' = true) (hn : n ≤ 100000) :
    Calls Tryz.prog 120 #[.slice (some ad) n c] w fun e w' => ∃ v', e = .returned v' ∧ w'.ownsRow w.heap.size 116 2 v' n xs ∧ Below w.heap.size w w' := by
  obtain ⟨i0, hi0, hz0, hz1, hz2⟩ := info_parts info116
  have hb0 : Below w.heap.size w (w.alloc (.cells #[] 116)) := (Below.refl _ _).alloc (Nat.le_refl _) _
  have hc' : ∀ j u, xs[j]? = some u → (w.alloc (.cells #[] 116)).cell? (ad.add j) = some u := fun j u hj => Holds.below hb0 _ _ (hc j u hj)
  have hown0 : (w.alloc (.cells #[] 116)).ownsRow w.heap.size 116 2 (.slice (some ⟨w.heap.size, 0, none⟩) 0 0) 0 [] := ⟨rfl, .inr ⟨_, 0, #[], rfl, Nat.le_refl _, World.alloc_heap_new w _, Nat.le_refl _, by decide, rfl, rfl⟩⟩
  have heq := fun w => eql_slice_nil w 60 116 (some ad) n c Tryz.underlying60
  simp only [Option.isNone_some] at heq
  go_enter Tryz.func120, Tryz.ntmps120
  go_wp2_with (at_builtin; refine wpList_append_own _ rfl _ _ 60 rfl w.heap.size 116 i0 (.agg #[.string ⟨#[]⟩, .string ⟨#[]⟩]) 2 32 Tryz.underlying60 hi0 hz0 hz1 hz2 rfl (by decide) _ 0 [] rfl hown0 ad n c xs rfl hx hc' h1 (by unfold maxLen; omega) (by omega) (by simp) ?_)
  intro v' w1 hown' hgrow _
  go_wp2
  go_ret
  exact ⟨v', rfl, hown', hb0.grown hgrow (by simp) (fun j e => by have := (hown0.lt j e).1; omega)⟩
set_option maxRecDepth 100000 in
theorem clone120_nil (n c : Nat) (w : World) : Calls Tryz.prog 120 #[.slice none n c] w fun e w' => e = .returned (.slice none 0 0) ∧ w' = w := by
 have heq := fun w => eql_slice_nil w 60 116 none n c Tryz.underlying60
 simp only [Option.isNone_none] at heq
 go_enter Tryz.func120, Tryz.ntmps120
 go_wp2
 go_ret
 exact ⟨rfl, rfl⟩
set_option maxRecDepth 100000 in
theorem clone121 (ad : Addr) (n c : Nat) (xs : List Value) (w : World) (hx : xs.length = n * 5) (hc : ∀ j u, xs[j]? = some u → w.cell? (ad.add j) = some u) (h1 : ∀ u ∈ xs, u.oneCell' = true) (hn : n ≤ 100000) :
    Calls Tryz.prog 121 #[.slice (some ad) n c] w fun e w' => ∃ v', e = .returned v' ∧ w'.ownsRow w.heap.size 74 5 v' n xs ∧ Below w.heap.size w w' := by
  obtain ⟨i0, hi0, hz0, hz1, hz2⟩ := info_parts info74
  have hb0 : Below w.heap.size w (w.alloc (.cells #[] 74)) := (Below.refl _ _).alloc (Nat.le_refl _) _
  have hc' : ∀ j u, xs[j]? = some u → (w.alloc (.cells #[] 74)).cell? (ad.add j) = some u := fun j u hj => Holds.below hb0 _ _ (hc j u hj)
  have hown0 : (w.alloc (.cells #[] 74)).ownsRow w.heap.size 74 5 (.slice (some ⟨w.heap.size, 0, none⟩) 0 0) 0 [] := ⟨rfl, .inr ⟨_, 0, #[], rfl, Nat.le_refl _, World.alloc_heap_new w _, Nat.le_refl _, by decide, rfl, rfl⟩⟩
  have heq := fun w => eql_slice_nil w 59 74 (some ad) n c Tryz.underlying59
  simp only [Option.isNone_some] at heq
  go_enter Tryz.func121, Tryz.ntmps121
  go_wp2_with (at_builtin; refine wpList_append_own _ rfl _ _ 59 rfl w.heap.size 74 i0 (.agg #[.string ⟨#[]⟩, .slice none 0 0, .int .i64 0, .slice none 0 0, .string ⟨#[]⟩]) 5 88 Tryz.underlying59 hi0 hz0 hz1 hz2 rfl (by decide) _ 0 [] rfl hown0 ad n c xs rfl hx hc' h1 (by unfold maxLen; omega) (by omega) (by simp) ?_)
  intro v' w1 hown' hgrow _
  go_wp2
  go_ret
  exact ⟨v', rfl, hown', hb0.grown hgrow (by simp) (fun j e => by have := (hown0.lt j e).1; omega)⟩
set_option maxRecDepth 100000 in
theorem clone121_nil (n c : Nat) (w : World) : Calls Tryz.prog 121 #[.slice none n c] w fun e w' => e = .returned (.slice none 0 0) ∧ w' = w := by
 have heq := fun w => eql_slice_nil w 59 74 none n c Tryz.underlying59
 simp only [Option.isNone_none] at heq
 go_enter Tryz.func121, Tryz.ntmps121
 go_wp2
 go_ret
 exact ⟨rfl, rfl⟩
end Go.Proofs.YteaokkaidcbdlaaGreatDoor

namespace Go.Proofs.YteaokkaidcbdlaaGreatDoor
open Go Go.RowKit Go.Shelf
def mapM (tf : Int → Int) (m : MethD) : MethD := { m with args := m.args.map tf, result := if m.result = -1 then -1 else tf m.result }
def mapTy (tf : Int → Int) (t : TyD) : TyD :=
 { t with super := if supB t.kind then tf t.super else t.super, parts := t.parts.map (fun p => { p with type := tf p.type }), meths := t.meths.map (mapM tf) }
def setAll (f : Addr → Value) (w : World) (l : List Addr) : World := l.foldl (fun w a => w.setCell a (f a)) w
theorem setAll_snoc (f : Addr → Value) (w : World) (l : List Addr) (a : Addr) : setAll f w (l ++ [a]) = (setAll f w l).setCell a (f a) := by unfold setAll; rw [List.foldl_append]; rfl
theorem setAll_other {f : Addr → Value} {b : Addr} : ∀ (l : List Addr) (w : World), b ∉ l → (setAll f w l).cell? b = w.cell? b
 | [], _, _ => rfl
 | a :: l, w, h => by
   have h1 : a ≠ b := fun e => h (by rw [e]; simp)
   exact (setAll_other l _ (fun e => h (by simp [e]))).trans (World.cell?_setCell_other _ _ _ _ h1)
theorem setAll_in {f : Addr → Value} {b : Addr} : ∀ (l : List Addr) (w : World), l.Nodup → b ∈ l → (w.cell? b).isSome = true → (setAll f w l).cell? b = some (f b)
 | a :: l, w, hn, h, hs => by
   rw [List.nodup_cons] at hn
   rcases List.mem_cons.1 h with rfl | h
   ·exact (setAll_other l _ hn.1).trans (World.cell?_setCell_same' _ _ _ hs)
   ·have h1 : a ≠ b := fun e => hn.1 (by rw [e]; exact h)
    refine setAll_in l _ hn.2 h ?_
    rw [World.cell?_setCell_other _ _ _ _ h1]; exact hs
theorem Holds.set {A B : World} {a : Addr} {v : Value} (h : Holds A B) (hs : (A.cell? a).isSome = true) : Holds (A.setCell a v) (B.setCell a v) := by
 intro b u hb
 by_cases e : a = b
 ·subst e
  rw [World.cell?_setCell_same' _ _ _ hs] at hb
  obtain ⟨x, hx⟩ := Option.isSome_iff_exists.1 hs
  rw [World.cell?_setCell_same' _ _ _ (by rw [h _ _ hx]; rfl)]
  exact hb
 ·rw [World.cell?_setCell_other _ _ _ _ e] at hb
  rw [World.cell?_setCell_other _ _ _ _ e]
  exact h _ _ hb
theorem mem_argAts {b off n : Nat} {a : Addr} : a ∈ argAts (some ⟨b, off, none⟩) n ↔ ∃ i, i < n ∧ a = ⟨b, off + i, none⟩ := by
 unfold argAts; simp [eq_comm]
theorem mem_partAts {b off n : Nat} {a : Addr} : a ∈ partAts (some ⟨b, off, none⟩) n ↔ ∃ i, i < n ∧ a = ⟨b, off + i * 2 + 1, none⟩ := by
 unfold partAts; simp [eq_comm]
theorem argAts_nodup {b off n : Nat} : (argAts (some ⟨b, off, none⟩) n).Nodup := by
 unfold argAts
 rw [List.Nodup, List.pairwise_map]
 refine List.Pairwise.imp ?_ List.nodup_range
 intro i j h e
 simp at e; omega
theorem partAts_nodup {b off n : Nat} : (partAts (some ⟨b, off, none⟩) n).Nodup := by
 unfold partAts
 rw [List.Nodup, List.pairwise_map]
 refine List.Pairwise.imp ?_ List.nodup_range
 intro i j h e
 simp at e; omega
theorem argAts_zero (o : Option Addr) : argAts o 0 = [] := rfl
theorem partAts_zero (o : Option Addr) : partAts o 0 = [] := rfl
theorem mem_sigAts {s : SigD} {b k : Nat} {a : Addr} (h : a ∈ sigAts s.o s.n b k s.res) (ho : 0 < s.n → ∃ ab aoff, s.o = some ⟨ab, aoff, none⟩) : (∃ ab aoff i, s.o = some ⟨ab, aoff, none⟩ ∧ i < s.n ∧ a = ⟨ab, aoff + i, none⟩) ∨ (s.res ≠ -1 ∧ a = ⟨b, k + 1, none⟩) := by
 unfold sigAts at h
 rw [List.mem_append] at h
 rcases h with h | h
 ·by_cases h0 : 0 < s.n
  ·obtain ⟨ab, aoff, e⟩ := ho h0
   rw [e] at h
   obtain ⟨i, hi, rfl⟩ := mem_argAts.1 h
   exact .inl ⟨ab, aoff, i, e, hi, rfl⟩
  ·rw [show s.n = 0 by omega, argAts_zero] at h; simp at h
 ·split at h
  ·simp at h
  ·rename_i hr
   exact .inr ⟨hr, by simpa using h⟩
theorem mem_methAts {mb moff : Nat} {S : List SigD} {a : Addr} (ho : ∀ s ∈ S, 0 < s.n → ∃ ab aoff, s.o = some ⟨ab, aoff, none⟩) : ∀ m, m ≤ S.length → a ∈ methAts (some ⟨mb, moff, none⟩) S m →
    ∃ i, ∃ h : i < S.length, i < m ∧ ((∃ ab aoff j, S[i].o = some ⟨ab, aoff, none⟩ ∧ j < S[i].n ∧ a = ⟨ab, aoff + j, none⟩) ∨ (S[i].res ≠ -1 ∧ a = ⟨mb, moff + i * 5 + 1 + 1, none⟩))
  | 0, _, h => by simp [methAts] at h
  | m + 1, hm, h => by
    rw [methAts_succ _ _ _ _ (by omega), List.mem_append] at h
    rcases h with h | h
    ·obtain ⟨i, hi, hlt, hr⟩ := mem_methAts ho m (by omega) h
     exact ⟨i, hi, by omega, hr⟩
    ·exact ⟨m, by omega, by omega, mem_sigAts h (ho _ (List.getElem_mem _))⟩
theorem in_sigAts_arg {s : SigD} {b k ab aoff j : Nat} (ho : s.o = some ⟨ab, aoff, none⟩) (hj : j < s.n) : (⟨ab, aoff + j, none⟩ : Addr) ∈ sigAts s.o s.n b k s.res := by
 unfold sigAts
 rw [List.mem_append, ho]
 exact .inl (mem_argAts.2 ⟨j, hj, rfl⟩)
theorem in_sigAts_res {s : SigD} {b k : Nat} (hr : s.res ≠ -1) : (⟨b, k + 1, none⟩ : Addr) ∈ sigAts s.o s.n b k s.res := by
 unfold sigAts
 rw [List.mem_append, if_neg hr]
 exact .inr (by simp)
theorem in_methAts {mb moff : Nat} {S : List SigD} {a : Addr} {i : Nat} (hi : i < S.length) (h : a ∈ sigAts S[i].o S[i].n mb (moff + i * 5 + 1) S[i].res) : a ∈ methAts (some ⟨mb, moff, none⟩) S S.length := by
 have h1 := methAts_pre (some ⟨mb, moff, none⟩) S (show i + 1 ≤ S.length by omega)
 refine h1.subset ?_
 rw [methAts_succ _ _ _ _ hi, List.mem_append]
 exact .inr h
theorem methAts_nodup {mb moff : Nat} {S : List SigD} (ho : ∀ s ∈ S, 0 < s.n → ∃ ab aoff, s.o = some ⟨ab, aoff, none⟩ ∧ ab ≠ mb)
    (hd : ∀ i j (hi : i < S.length) (hj : j < S.length), i < j → ∀ ab aoff ab' aoff', 0 < S[i].n → 0 < S[j].n → S[i].o = some ⟨ab, aoff, none⟩ → S[j].o = some ⟨ab', aoff', none⟩ → ab ≠ ab') : ∀ m, m ≤ S.length → (methAts (some ⟨mb, moff, none⟩) S m).Nodup
  | 0, _ => by simp [methAts]
  | m + 1, hm => by
    have ih := methAts_nodup (moff := moff) ho hd m (by omega)
    have ho' : ∀ s ∈ S, 0 < s.n → ∃ ab aoff, s.o = some ⟨ab, aoff, none⟩ := fun s hs h => by obtain ⟨ab, aoff, e, _⟩ := ho s hs h; exact ⟨ab, aoff, e⟩
    rw [methAts_succ _ _ _ _ (by omega), List.nodup_append]
    refine ⟨ih, ?_, ?_⟩
    ·unfold sigAts
     by_cases h0 : 0 < S[m].n
     ·obtain ⟨ab, aoff, e, hne⟩ := ho _ (List.getElem_mem (by omega : m < S.length)) h0
      rw [e, List.nodup_append]
      refine ⟨argAts_nodup, by split <;> simp, fun x hx y hy e => ?_⟩
      obtain ⟨j, hj, rfl⟩ := mem_argAts.1 hx
      split at hy
      ·simp at hy
      ·simp at hy; subst hy
       exact hne (congrArg Addr.block e)
     ·rw [show S[m].n = 0 by omega, argAts_zero, List.nil_append]
      split <;> simp
    ·intro x hx y hy e
     subst e
     obtain ⟨i, hi, hlt, h1⟩ := mem_methAts ho' m (by omega) hx
     have h2 := mem_sigAts hy (ho' _ (List.getElem_mem (by omega : m < S.length)))
     rcases h1 with ⟨ab, aoff, j, e1, hj, rfl⟩ | ⟨_, rfl⟩
     ·rcases h2 with ⟨ab', aoff', j', e2, hj', e3⟩ | ⟨_, e3⟩
      ·exact hd i m hi (by omega) hlt ab aoff ab' aoff' (by omega) (by omega) e1 e2 (congrArg Addr.block e3)
      ·obtain ⟨ab2, aoff2, e4, hne⟩ := ho _ (List.getElem_mem hi) (by omega)
       rw [e1] at e4; cases e4
       exact hne (congrArg Addr.block e3)
     ·rcases h2 with ⟨ab', aoff', j', e2, hj', e3⟩ | ⟨_, e3⟩
      ·obtain ⟨ab2, aoff2, e4, hne⟩ := ho _ (List.getElem_mem (by omega : m < S.length)) (by omega)
       rw [e2] at e4; cases e4
       exact hne (congrArg Addr.block e3).symm
      ·simp at e3
end Go.Proofs.YteaokkaidcbdlaaGreatDoor

namespace Go.Proofs.YteaokkaidcbdlaaGreatDoor
open Go Go.RowKit Go.Shelf
theorem flat_get {α : Type} {f : α → List Value} {sz : Nat} (hf : ∀ x, (f x).length = sz) : ∀ (l : List α) (i k : Nat) (hi : i < l.length), k < sz → (l.flatMap f)[i * sz + k]? = (f l[i])[k]?
 | x :: l, 0, k, _, hk => by
   rw [List.flatMap_cons, Nat.zero_mul, Nat.zero_add, List.getElem?_append_left (by rw [hf]; exact hk)]; rfl
 | x :: l, i + 1, k, hi, hk => by
   rw [List.flatMap_cons, Nat.add_mul, Nat.one_mul, List.getElem?_append_right (by rw [hf]; omega), hf, show i * sz + sz + k - sz = i * sz + k by omega]
   exact flat_get hf l i k (by simpa using hi) hk
theorem cells_len {α : Type} {f : α → List Value} {sz : Nat} (hf : ∀ x, (f x).length = sz) : ∀ (l : List α), (l.flatMap f).length = l.length * sz
 | [] => by simp
 | x :: l => by rw [List.flatMap_cons, List.length_append, hf, cells_len hf l, List.length_cons, Nat.add_mul]; omega
theorem flat_set {α : Type} {f : α → List Value} {sz : Nat} (hf : ∀ x, (f x).length = sz) {v : Value} {y : α} : ∀ (l : List α) (i k : Nat) (hi : i < l.length), k < sz → f y = (f l[i]).set k v → (l.flatMap f).set (i * sz + k) v = (l.set i y).flatMap f
 | x :: l, 0, k, _, hk, hy => by
   rw [List.set_cons_zero, List.flatMap_cons, List.flatMap_cons, Nat.zero_mul, Nat.zero_add, List.set_append_left _ _ (by rw [hf]; exact hk)]
   rw [hy]; rfl
 | x :: l, i + 1, k, hi, hk, hy => by
   rw [List.set_cons_succ, List.flatMap_cons, List.flatMap_cons, Nat.add_mul, Nat.one_mul, List.set_append_right _ _ (by rw [hf]; omega), hf, show i * sz + sz + k - sz = i * sz + k by omega]
   rw [flat_set hf l i k (by simpa using hi) hk hy]
def partCells (l : List PartD) : List Value := l.flatMap fun p => [.string p.name, .int .i64 p.type]
def overCells (l : List OverD) : List Value := l.flatMap fun p => [.string p.name, .string p.proc]
abbrev MV := MethD × Value × Value
def mvC (x : MV) : List Value := [.string x.1.name, x.2.1, .int .i64 x.1.result, x.2.2, .string x.1.proc]
def mvCells (l : List MV) : List Value := l.flatMap mvC
theorem row_setN {w : World} {base : Nat} {e : TypeId} {sz g n cap : Nat} {xs : List Value} (h : w.ownsRow base e sz (.slice (some ⟨g, 0, none⟩) n cap) n xs) (k : Nat) (v : Value) :
    (w.setCell ⟨g, k, none⟩ v).ownsRow base e sz (.slice (some ⟨g, 0, none⟩) n cap) n (xs.set k v) := by
  rcases h.2 with ⟨h0, _⟩ | ⟨g', cap', cur, h0, hg, hc, h1, h2, h3, h4⟩
  ·cases h0
  ·cases h0
   refine ⟨by rw [List.length_set]; exact h.1, .inr ⟨g, cap, cur.setIfInBounds k v, rfl, hg, ?_, h1, h2, by simpa using h3, ?_⟩⟩
   ·have hlt := (Array.getElem?_eq_some_iff.1 hc).1
    show (w.heap.modify g _)[g]? = _
    rw [Array.getElem?_modify, if_pos rfl, hc]
    rfl
   ·rw [Array.toList_setIfInBounds, List.take_set, h4]
theorem slice_addr {α : Type} {sz : Nat} {At : Nat → Nat → α → Prop} {v : Value} {l : List α} (h : SliceOf sz At v l) : (∃ n c, v = .slice none n c ∧ l = []) ∨ (∃ ad c, v = .slice (some ad) l.length c ∧ l = []) ∨ ∃ b off c, v = .slice (some ⟨b, off, none⟩) l.length c ∧ ∀ i x, l[i]? = some x → At b (off + i * sz) x := by
 obtain ⟨o, cap, rfl, h1, h2, h3⟩ := h
 cases l with
 | nil =>
   cases o with
   | none => exact .inl ⟨_, _, rfl, rfl⟩
   | some ad => exact .inr (.inl ⟨ad, cap, rfl, rfl⟩)
 | cons x l =>
   obtain ⟨b, off, rfl, _⟩ := h3 0 x rfl
   refine .inr (.inr ⟨b, off, cap, rfl, fun i y hy => ?_⟩)
   obtain ⟨b', off', e, ha⟩ := h3 i y hy
   cases e; exact ha
theorem nil_row (w : World) (base : Nat) (e : TypeId) (sz : Nat) : w.ownsRow base e sz (.slice none 0 0) 0 [] := ⟨by simp, .inl ⟨rfl, rfl⟩⟩
theorem clone_parts (v : Value) (l : List PartD) (w : World) (h : SliceOf 2 (PartAt w) v l) (hl : l.length ≤ 100000) :
    Calls Tryz.prog 119 #[v] w fun e w' => ∃ v', e = .returned v' ∧ w'.ownsRow w.heap.size 93 2 v' l.length (partCells l) ∧ Below w.heap.size w w' := by
  rcases slice_addr h with ⟨n, c, rfl, rfl⟩ | ⟨ad, c, rfl, rfl⟩ | ⟨b, off, c, rfl, hat⟩
  ·refine (clone119_nil n c w).mono ?_
   rintro e w' ⟨rfl, rfl⟩
   exact ⟨_, rfl, nil_row _ _ _ _, Below.refl _ _⟩
  ·exact clone119 ad 0 c [] w rfl (fun j u h => by simp at h) (fun u h => by simp at h) (by omega)
  ·refine clone119 ⟨b, off, none⟩ l.length c (partCells l) w (by unfold partCells; exact cells_len (sz := 2) (fun _ => rfl) l) (fun j u hj => ?_) (fun u hu => ?_) hl
   ·have hlen := (List.getElem?_eq_some_iff.1 hj).1
    unfold partCells at hlen hj
    rw [cells_len (sz := 2) (fun _ => rfl)] at hlen
    have hi : j / 2 < l.length := by omega
    have hp := hat (j / 2) l[j / 2] (List.getElem?_eq_getElem hi)
    rw [add_addr]
    have e0 : j = j / 2 * 2 + j % 2 := by omega
    rw [e0, flat_get (sz := 2) (fun _ => rfl) l (j / 2) (j % 2) hi (by omega)] at hj
    rcases (show j % 2 = 0 ∨ j % 2 = 1 by omega) with h2 | h2
    ·rw [h2] at hj; simp at hj; subst hj
     have := hp.1
     rwa [show off + j / 2 * 2 = off + j by omega] at this
    ·rw [h2] at hj; simp at hj; subst hj
     have := hp.2
     rwa [show off + j / 2 * 2 + 1 = off + j by omega] at this
   ·unfold partCells at hu
    obtain ⟨p, _, hp⟩ := List.mem_flatMap.1 hu
    simp at hp
    rcases hp with rfl | rfl <;> rfl
theorem clone_overs (v : Value) (l : List OverD) (w : World) (h : SliceOf 2 (OverAt w) v l) (hl : l.length ≤ 100000) :
    Calls Tryz.prog 120 #[v] w fun e w' => ∃ v', e = .returned v' ∧ w'.ownsRow w.heap.size 116 2 v' l.length (overCells l) ∧ Below w.heap.size w w' := by
  rcases slice_addr h with ⟨n, c, rfl, rfl⟩ | ⟨ad, c, rfl, rfl⟩ | ⟨b, off, c, rfl, hat⟩
  ·refine (clone120_nil n c w).mono ?_
   rintro e w' ⟨rfl, rfl⟩
   exact ⟨_, rfl, nil_row _ _ _ _, Below.refl _ _⟩
  ·exact clone120 ad 0 c [] w rfl (fun j u h => by simp at h) (fun u h => by simp at h) (by omega)
  ·refine clone120 ⟨b, off, none⟩ l.length c (overCells l) w (by unfold overCells; exact cells_len (sz := 2) (fun _ => rfl) l) (fun j u hj => ?_) (fun u hu => ?_) hl
   ·have hlen := (List.getElem?_eq_some_iff.1 hj).1
    unfold overCells at hlen hj
    rw [cells_len (sz := 2) (fun _ => rfl)] at hlen
    have hi : j / 2 < l.length := by omega
    have hp := hat (j / 2) l[j / 2] (List.getElem?_eq_getElem hi)
    rw [add_addr]
    have e0 : j = j / 2 * 2 + j % 2 := by omega
    rw [e0, flat_get (sz := 2) (fun _ => rfl) l (j / 2) (j % 2) hi (by omega)] at hj
    rcases (show j % 2 = 0 ∨ j % 2 = 1 by omega) with h2 | h2
    ·rw [h2] at hj; simp at hj; subst hj
     have := hp.1
     rwa [show off + j / 2 * 2 = off + j by omega] at this
    ·rw [h2] at hj; simp at hj; subst hj
     have := hp.2
     rwa [show off + j / 2 * 2 + 1 = off + j by omega] at this
   ·unfold overCells at hu
    obtain ⟨p, _, hp⟩ := List.mem_flatMap.1 hu
    simp at hp
    rcases hp with rfl | rfl <;> rfl
theorem meths_mv {W : World} {v : Value} {l : List MethD} (h : SliceOf 5 (MethAt W) v l) : ∃ M : List MV, M.map (·.1) = l ∧ (∀ x ∈ M, MethV W x.2.1 x.2.2 x.1) ∧ ∀ b off c, v = .slice (some ⟨b, off, none⟩) l.length c → ∀ i (hi : i < M.length) k u, (mvC M[i])[k]? = some u → W.cell? ⟨b, off + i * 5 + k, none⟩ = some u := by
 obtain ⟨o, cap, rfl, h1, h2, h3⟩ := h
 obtain ⟨M, hl, hM⟩ := choose_list (P := fun i (x : MV) => ∀ hi : i < l.length, x.1 = l[i] ∧ MethV W x.2.1 x.2.2 x.1 ∧ ∀ b off c, (Value.slice o l.length cap) = .slice (some ⟨b, off, none⟩) l.length c → ∀ k u, (mvC x)[k]? = some u → W.cell? ⟨b, off + i * 5 + k, none⟩ = some u) l.length (fun i hi => by
  obtain ⟨b, off, rfl, va, vr, hv, m0, m1, m2, m3, m4⟩ := h3 i l[i] (List.getElem?_eq_getElem hi)
  refine ⟨(l[i], va, vr), fun _ => ⟨rfl, hv, fun b' off' c' e k u hk => ?_⟩⟩
  cases e
  match k with
  | 0 => simp [mvC] at hk; subst hk; exact m0
  | 1 => simp [mvC] at hk; subst hk; exact m1
  | 2 => simp [mvC] at hk; subst hk; exact m2
  | 3 => simp [mvC] at hk; subst hk; exact m3
  | 4 => simp [mvC] at hk; subst hk; exact m4
  | k + 5 => simp [mvC] at hk)
 refine ⟨M, ?_, ?_, ?_⟩
 ·apply List.ext_getElem (by simpa using hl)
  intro i a1 a2
  rw [List.getElem_map]
  exact (hM i (by omega) a2).1
 ·intro x hx
  obtain ⟨i, hi, rfl⟩ := List.mem_iff_getElem.1 hx
  exact (hM i hi (by omega)).2.1
 ·intro b off c e i hi k u hk
  exact (hM i hi (by omega)).2.2 b off c e k u hk
theorem methV_one {W : World} {x : MV} (h : MethV W x.2.1 x.2.2 x.1) : ∀ u ∈ mvC x, u.oneCell' = true := by
 obtain ⟨o1, c1, e1⟩ := h.args.form
 obtain ⟨o2, c2, e2⟩ := h.raises.form
 intro u hu
 unfold mvC at hu
 rw [e1, e2] at hu
 simp at hu
 rcases hu with rfl | rfl | rfl | rfl | rfl <;> rfl
theorem clone_meths (v : Value) (l : List MethD) (w0 w : World) (hh : Go.Proofs.YteaokkaidcbdlaaGreatDoor.Holds w0 w) (h : SliceOf 5 (MethAt w0) v l) (hl : l.length ≤ 100000) :
    Calls Tryz.prog 121 #[v] w fun e w' => ∃ v' M, e = .returned v' ∧ M.map (·.1) = l ∧ (∀ x ∈ M, MethV w0 x.2.1 x.2.2 x.1) ∧ w'.ownsRow w.heap.size 74 5 v' l.length (mvCells M) ∧ Below w.heap.size w w' := by
  obtain ⟨M, hM, hV, hC⟩ := meths_mv h
  have hMl : M.length = l.length := by rw [← hM]; simp
  rcases slice_addr h with ⟨n, c, rfl, rfl⟩ | ⟨ad, c, rfl, rfl⟩ | ⟨b, off, c, rfl, hat⟩
  ·refine (clone121_nil n c w).mono ?_
   rintro e w' ⟨rfl, rfl⟩
   exact ⟨_, [], rfl, rfl, fun x hx => by simp at hx, nil_row _ _ _ _, Below.refl _ _⟩
  ·refine (clone121 ad 0 c [] w rfl (fun j u h => by simp at h) (fun u h => by simp at h) (by omega)).mono ?_
   rintro e w' ⟨v', rfl, hr, hb⟩
   exact ⟨v', [], rfl, rfl, fun x hx => by simp at hx, hr, hb⟩
  ·refine (clone121 ⟨b, off, none⟩ l.length c (mvCells M) w (by rw [← hMl]; unfold mvCells; exact cells_len (sz := 5) (fun _ => rfl) M) (fun j u hj => ?_) (fun u hu => ?_) hl).mono ?_
   ·have hlen := (List.getElem?_eq_some_iff.1 hj).1
    unfold mvCells at hlen hj
    rw [cells_len (sz := 5) (fun _ => rfl)] at hlen
    have hi : j / 5 < M.length := by omega
    rw [add_addr]
    have e0 : j = j / 5 * 5 + j % 5 := by omega
    rw [e0, flat_get (sz := 5) (fun _ => rfl) M (j / 5) (j % 5) hi (by omega)] at hj
    have := hh _ _ (hC b off c rfl (j / 5) hi (j % 5) u hj)
    rwa [show off + j / 5 * 5 + j % 5 = off + j by omega] at this
   ·unfold mvCells at hu
    obtain ⟨p, hp, hu⟩ := List.mem_flatMap.1 hu
    exact methV_one (hV p hp) u hu
   ·rintro e w' ⟨v', rfl, hr, hb⟩
    exact ⟨v', M, rfl, hM, hV, hr, hb⟩
theorem clone_ints (v : Value) (l : List Int) (w : World) (h : SliceOf 1 (IntAt w) v l) (hl : l.length ≤ 100000) :
    Calls Tryz.prog 122 #[v] w fun e w' => ∃ v', e = .returned v' ∧ w'.ownsRow w.heap.size 3 1 v' l.length (l.map (.int .i64)) ∧ Below w.heap.size w w' := by
  rcases slice_addr h with ⟨n, c, rfl, rfl⟩ | ⟨ad, c, rfl, rfl⟩ | ⟨b, off, c, rfl, hat⟩
  ·refine (Tryz.slices_Clone_int_nil n c w).mono ?_
   rintro e w' ⟨rfl, rfl⟩
   exact ⟨_, rfl, nil_row _ _ _ _, Below.refl _ _⟩
  ·refine (Tryz.slices_Clone_int_zero ad c w).mono ?_
   rintro e w' ⟨v', rfl, hr, _, hb⟩
   exact ⟨v', rfl, hr, hb⟩
  ·refine (Tryz.slices_Clone_int b off l.length c l w (Nat.le_refl _) (by omega) (fun j hj => ?_)).mono ?_
   ·have := hat j l[j] (List.getElem?_eq_getElem hj)
    unfold IntAt at this
    rw [Nat.mul_one] at this
    rw [this, List.getD_eq_getElem?_getD, List.getElem?_eq_getElem hj]; rfl
   ·rintro e w' ⟨v', rfl, hr, _, hb⟩
    rw [List.take_length] at hr
    exact ⟨v', rfl, hr, hb⟩
theorem clone_strs (v : Value) (l : List ByteArray) (w : World) (h : SliceOf 1 (StrAt w) v l) (hl : l.length ≤ 100000) :
    Calls Tryz.prog 123 #[v] w fun e w' => ∃ v', e = .returned v' ∧ w'.ownsRow w.heap.size 9 1 v' l.length (l.map .string) ∧ Below w.heap.size w w' := by
  rcases slice_addr h with ⟨n, c, rfl, rfl⟩ | ⟨ad, c, rfl, rfl⟩ | ⟨b, off, c, rfl, hat⟩
  ·refine (Tryz.slices_Clone_string_nil n c w).mono ?_
   rintro e w' ⟨rfl, rfl⟩
   exact ⟨_, rfl, nil_row _ _ _ _, Below.refl _ _⟩
  ·refine (Tryz.slices_Clone_string_zero ad c w).mono ?_
   rintro e w' ⟨v', rfl, hr, _, hb⟩
   exact ⟨v', rfl, hr, hb⟩
  ·refine (Tryz.slices_Clone_string b off l.length c l w (Nat.le_refl _) (by omega) (fun j hj => ?_)).mono ?_
   ·have := hat j l[j] (List.getElem?_eq_getElem hj)
    unfold StrAt at this
    rw [Nat.mul_one] at this
    rw [this, List.getD_eq_getElem?_getD, List.getElem?_eq_getElem hj]; rfl
   ·rintro e w' ⟨v', rfl, hr, _, hb⟩
    rw [List.take_length] at hr
    exact ⟨v', rfl, hr, hb⟩
end Go.Proofs.YteaokkaidcbdlaaGreatDoor

namespace Go.Proofs.YteaokkaidcbdlaaGreatDoor
open Go Go.RowKit Go.Shelf
end Go.Proofs.YteaokkaidcbdlaaGreatDoor

namespace Go.Proofs.YteaokkaidcbdlaaGreatDoor
open Go Go.RowKit Go.Shelf
end Go.Proofs.YteaokkaidcbdlaaGreatDoor

