/- What ScanLocal's function compares, said of the pieces; and its answer where either source has a fault. -/
import Derived.Test.YteknngncnbfbnaaGreatDoorJo
import Derived.Test.YteknngncnbfbnaaGreatDoorLa
import Derived.RangeFuncNested
import Derived.RangeFuncBound
import Derived.RangeFuncCalls
import Derived.RangeFuncLeaves
import Derived.RangeFuncBox
import Derived.Shelf.Abstract
import Derived.WalkKit
import Derived.OwnWalkIn
import Derived.TacticsInMore
import Derived.LoopNIn
import Derived.LoopIn
import Derived.RecoverIn
import Derived.Maps.AppendAt
import Derived.Outline
import Derived.Handy
import Derived.Deep.LoopGhost
import Derived.RegionTactic
import Derived.ChangeAlike
import Derived.Deep.QuietTactic
import Derived.BigQuiet
import Derived.StillTailTactics
import Derived.Deep.RegionWith
import Derived.LoopTactic
import Derived.OwnWalk
import Derived.Deep.AppendLies
import Derived.Deep.DeepCutAuto
import Derived.KernelRfl
import Derived.Deep.OwnRows
namespace Go.Proofs.YteknngncnbfbnaaGreatDoor
open Go Go.RowKit Go.Shelf
theorem firstlast_le (xs ys : List Bit) : firstR xs ys + lastR xs ys ≤ xs.length ∧ firstR xs ys + lastR xs ys ≤ ys.length := by
  have h1 := cpf_le xs ys
  have h2 := (cpf_le (xs.reverse.take (min xs.length ys.length - firstR xs ys)) ys.reverse).1
  rw [List.length_take] at h2
  unfold lastR
  unfold firstR at *
  omega
theorem cat_drop_le (xs : List Bit) (k : Nat) : (cat (xs.drop k)).length ≤ (cat xs).length := by
  conv => rhs; rw [← List.take_append_drop k xs, cat_app, List.length_append]
  omega
theorem cat_drop_step {xs : List Bit} {k : Nat} (hk : k < xs.length) : (cat (xs.drop k)).length = (cat (xs.drop (k + 1))).length + xs[k].2.size := by
  rw [List.drop_eq_getElem_cons hk, cat_cons, List.length_append, bs_len]; omega
theorem cat_take_step {xs : List Bit} {k : Nat} (hk : k < xs.length) : (cat (xs.take (k + 1))).length = (cat (xs.take k)).length + xs[k].2.size := by
  rw [List.take_succ_eq_append_getElem hk, cat_snoc, List.length_append, bs_len]
theorem local_first (s t : ByteArray) (f o : Nat) (h1 : f ≤ o) (h2 : o ≤ s.size) {xs ys : List Bit} (px : Pcs (bs s) xs) (py : Pcs (bs (midS s t f o)) ys) {k : Nat} (hk : k < xs.length) (hl : (cat (xs.take (k + 1))).length < f) : k < firstR xs ys := by
  refine cpf_local px py (agr_take (n := f) ?_) k hk hl
  have hf : ((bs s).take f).length = f := by rw [List.length_take, bs_len]; omega
  rw [bs_midS, List.append_assoc]
  exact List.take_left' hf
theorem local_last (s t : ByteArray) (f o : Nat) (h1 : f ≤ o) (h2 : o ≤ s.size) {xs ys : List Bit} (px : Pcs (bs s) xs) (py : Pcs (bs (midS s t f o)) ys) {k j r : Nat} (hr : (cat (xs.drop k)).length = r) (hr' : (cat (ys.drop j)).length = r) (hro : r + o ≤ s.size) (hF : firstR xs ys ≤ k) (hG : firstR xs ys + (xs.length - k) ≤ ys.length) (hk : k < xs.length) : xs.length - k ≤ lastR xs ys := by
  refine last_local px py hr hr' ?_ (by unfold firstR at *; omega)
  have hf : ((bs s).take f ++ bs t).length = f + t.size := by rw [List.length_append, List.length_take, bs_len, bs_len]; omega
  have hm : (bs (midS s t f o)).length = f + t.size + (s.size - o) := by rw [bs_midS, List.length_append, hf, List.length_drop, bs_len]
  have hz : ((bs s).take f ++ bs t).drop (f + t.size + (s.size - o) - r) = [] := List.drop_eq_nil_of_le (by rw [hf]; omega)
  rw [hm, bs_midS, bs_len, List.drop_append, hf, hz, List.nil_append, List.drop_drop]
  congr 1
  omega
theorem cat_mid_le (s t : ByteArray) (f o : Nat) (h1 : f ≤ o) (h2 : o ≤ s.size) {ys : List Bit} (py : Pcs (bs (midS s t f o)) ys) : (cat ys).length ≤ s.size + t.size := by
  rw [pcs_cat py, bs_midS, List.length_append, List.length_append, List.length_take, List.length_drop, bs_len, bs_len]; omega
theorem again_alone (s t : ByteArray) (f o : Int) (hs : s.size ≤ 100000) (ht : t.size ≤ 100000) : (∃ x l : Int, x ≠ 0 ∧ ∀ W, Env W → Calls Tryz.prog 42 #[.string s, .int .i64 f, .int .i64 o, .string t] W (AgainPost W 0 0 x l)) ∨ ∃ f' o' : Nat, f = f' ∧ o = o' ∧ f' ≤ o' ∧ o' ≤ s.size ∧ ∃ xs ys, pcsL (bs s) = (xs, 0, 0) ∧ pcsL (bs (midS s t f' o')) = (ys, 0, 0) := by
  by_cases h : f < 0 ∨ o < f ∨ (s.size : Int) < o
  · exact .inl ⟨1, 0, by decide, fun W _ => again_arg s t f o h W⟩
  · obtain ⟨f, rfl⟩ : ∃ n : Nat, f = n := ⟨f.toNat, by omega⟩
    obtain ⟨o, rfl⟩ : ∃ n : Nat, o = n := ⟨o.toNat, by omega⟩
    have h1 : f ≤ o := by omega
    have h2 : o ≤ s.size := by omega
    obtain ⟨p, hp⟩ : ∃ p, pcsL (bs s) = p := ⟨_, rfl⟩
    obtain ⟨xs, x, l⟩ := p
    by_cases hx : x = 0
    · subst hx
      obtain ⟨_, _, rfl⟩ := pcsL_ok hp
      obtain ⟨q, hq⟩ : ∃ q, pcsL (bs (midS s t f o)) = q := ⟨_, rfl⟩
      obtain ⟨ys, y, m⟩ := q
      by_cases hy : y = 0
      · subst hy
        obtain ⟨_, _, rfl⟩ := pcsL_ok hq
        exact .inr ⟨f, o, rfl, rfl, h1, h2, xs, ys, hp, hq⟩
      · exact .inl ⟨y, m, by omega, fun W hW => again_two s t f o h1 h2 hs ht xs hp y m ys hq hy W hW⟩
    · exact .inl ⟨x, l, by omega, fun W hW => again_one s t f o h1 h2 x l xs hp hx W hW⟩
theorem info4 : (Tryz.prog.info? 4).map (fun i => (i.zero, i.size, i.bytes)) = some (some (.bool false), 1, 1) := by kernel_rfl
set_option maxRecDepth 100000 in
set_option maxHeartbeats 2000000 in
theorem local_err (s t : ByteArray) (f o x l : Int) (hx : x ≠ 0) (h1 : ∀ W, Env W → Calls Tryz.prog 42 #[.string s, .int .i64 f, .int .i64 o, .string t] W (AgainPost W 0 0 x l)) (hs : s.size ≤ 1200) (ht : t.size ≤ 1200) (w : World) (hE : Env w) (hD : Db w) :
    Calls Tryz.prog 10 #[.string s, .int .i64 f, .int .i64 o, .string t] w fun e w' => e = .returned (.bool true) ∧ Below w.heap.size w w' := by
  have hs' : ¬ (1200 : Int) < s.size := by omega
  have ht' : ¬ (1200 : Int) < t.size := by omega
  have hx' : (x != 0) = true := by simpa using hx
  have H1 := hide h1
  clear h1 hx
  go_enter Tryz.func10, Tryz.ntmps10
  go_wp2_with fail
  refine (unhide H1 _ hE).mono ?_
  rintro e1 w1 ⟨rfl, hb1⟩
  have K1 := (Cells.nil w1).fault x l
  have B1 := hb1.alloc hb1.size (.cells #[.int .i64 x, .int .i64 l] 34)
  have a0 := K1.get (a := ⟨w1.heap.size, 0, none⟩) (v := .int .i64 x) (by simp)
  clear hb1 K1
  go_wp2_with fail
  clear a0
  generalize w1.alloc (.cells #[.int .i64 x, .int .i64 l] 34) = V1 at B1 ⊢
  refine (divided_any V1 (hE.below B1 hE.sz) (hD.below B1 (Nat.le_trans (by decide) hE.sz))).mono ?_
  rintro e3 w3 ⟨rfl, hb3⟩
  go_wp2_with fail
  go_ret
  exact ⟨rfl, B1.trans (hb3.mono B1.size)⟩
end Go.Proofs.YteknngncnbfbnaaGreatDoor
