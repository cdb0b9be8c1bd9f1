/- Spot and Place, for every source; strings.Split is taken by the kit's contract. -/
import Derived.Test.YteknngncnbfbnaaGreatDoorSn
import Derived.RangeFuncNested
import Derived.RangeFuncBound
import Derived.RangeFuncCalls
import Derived.RangeFuncLeaves
import Derived.RangeFuncBox
import Derived.Shelf.Abstract
import Derived.WalkKit
import Derived.OwnWalkIn
import Derived.TacticsInMore
import Derived.LoopNIn
import Derived.LoopIn
import Derived.RecoverIn
import Derived.Maps.AppendAt
import Derived.Outline
import Derived.Handy
import Derived.Deep.LoopGhost
import Derived.RegionTactic
import Derived.ChangeAlike
import Derived.Deep.QuietTactic
import Derived.BigQuiet
import Derived.StillTailTactics
import Derived.Deep.RegionWith
import Derived.LoopTactic
import Derived.OwnWalk
import Derived.Deep.AppendLies
import Derived.Deep.DeepCutAuto
import Derived.KernelRfl
namespace Go.Proofs.YteknngncnbfbnaaGreatDoor
open Go Go.RowKit Go.Shelf

/-- What Spot hands back. -/
def spotR (s : ByteArray) (at_ : Int) : Int × Int × Int :=
  if 20000 < s.size then (0, 0, 2) else if at_ < 0 ∨ (s.size : Int) < at_ then (0, 0, 1)
  else (((1 + nl ((bs s).take at_.toNat) : Nat) : Int), at_ - Lib.lastIndexByte (s.extract 0 at_.toNat) 10, 0)
theorem lastIdx_bd (s : ByteArray) (c : Int) : -1 ≤ Lib.lastIndexByte s c ∧ Lib.lastIndexByte s c < s.size := by
  unfold Lib.lastIndexByte
  rcases Lib.lastIdx_spec s c s.size with ⟨h, _⟩ | ⟨i, h1, h2, _⟩ <;> omega
theorem ret_three {a a' b b' c c' : Value} (h : a = a') (k : b = b') (m : c = c') : Ending.returned (.tuple #[a, b, c]) = .returned (.tuple #[a', b', c']) := by rw [h, k, m]
theorem spot_any (s : ByteArray) (at_ : Int) (w : World) : Calls Tryz.prog 38 #[.string s, .int .i64 at_] w fun e w' => e = .returned (.tuple #[.int .i64 (spotR s at_).1, .int .i64 (spotR s at_).2.1, .int .i64 (spotR s at_).2.2]) ∧ w = w' := by
  by_cases h1 : 20000 < s.size
  · have HR : Hid (spotR s at_ = (0, 0, 2)) := if_pos h1
    go_enter Tryz.func38, Tryz.ntmps38
    go_wp2_with fail
    go_ret3
    exact ⟨ret_three (by rw [HR.out]; rfl) (by rw [HR.out]; rfl) (by rw [HR.out]; rfl), rfl⟩
  · by_cases h2 : at_ < 0
    · have HR : Hid (spotR s at_ = (0, 0, 1)) := (if_neg h1).trans (if_pos (.inl h2))
      go_enter Tryz.func38, Tryz.ntmps38
      go_wp2_with fail
      go_ret3
      exact ⟨ret_three (by rw [HR.out]; rfl) (by rw [HR.out]; rfl) (by rw [HR.out]; rfl), rfl⟩
    · by_cases h3 : (s.size : Int) < at_
      · have HR : Hid (spotR s at_ = (0, 0, 1)) := (if_neg h1).trans (if_pos (.inr h3))
        go_enter Tryz.func38, Tryz.ntmps38
        go_wp2_with fail
        go_ret3
        exact ⟨ret_three (by rw [HR.out]; rfl) (by rw [HR.out]; rfl) (by rw [HR.out]; rfl), rfl⟩
      · obtain ⟨k, rfl⟩ : ∃ k : Nat, at_ = k := ⟨at_.toNat, by omega⟩
        have HR : Hid (spotR s k = (((1 + nl ((bs s).take k) : Nat) : Int), (k : Int) - Lib.lastIndexByte (s.extract 0 k) 10, 0)) := (if_neg h1).trans (if_neg (by omega))
        have hl := lastIdx_bd (s.extract 0 k) 10
        have hn := nl_le (bs (s.extract 0 k))
        rw [bs_len, ByteArray.size_extract] at hn
        rw [ByteArray.size_extract] at hl
        have hla : ∀ W, Calls Tryz.prog 72 #[.string (s.extract 0 k), .int .u8 10] W fun e w' => e = .returned (.int .i64 (Lib.lastIndexByte (s.extract 0 k) 10)) ∧ w' = W := fun W => Tryz.strings_LastIndexByte (s.extract 0 k) 10 (by rw [ByteArray.size_extract]; omega) W
        generalize hL : Lib.lastIndexByte (s.extract 0 k) 10 = L at *
        have HLA := hide hla
        clear hla hL
        go_enter Tryz.func38, Tryz.ntmps38
        go_wp2_with (first | (go_at_call 68; refine (count_any (s.extract 0 k) _).mono ?_; rintro e w' ⟨rfl, rfl⟩) | (go_at_call 72; refine (unhide HLA _).mono ?_; rintro e w' ⟨rfl, rfl⟩))
        go_ret3
        refine ⟨ret_three ?_ ?_ ?_, rfl⟩
        · rw [HR.out]; simp [bs_take]
        · rw [HR.out]; rfl
        · rw [HR.out]; rfl

def linesB (s : ByteArray) : List ByteArray := Lib.splitB ⟨#[10]⟩ 0 (Lib.countB s ⟨#[10]⟩) s
theorem linesB_len (s : ByteArray) : (linesB s).length = Lib.countB s ⟨#[10]⟩ + 1 := Lib.splitB_all ⟨#[10]⟩ (by decide) 0 _ s rfl
theorem linesB_le (s : ByteArray) : (linesB s).length ≤ s.size + 1 := by
  rw [linesB_len]
  have := Lib.countB_le ⟨#[10]⟩ (by decide) s.size s (Nat.le_refl _)
  omega
theorem splitB_size (sep : ByteArray) : ∀ (k : Nat) (s : ByteArray), ∀ b ∈ Lib.splitB sep 0 k s, b.size ≤ s.size
  | 0, s, b, hb => by simp [Lib.splitB] at hb; subst hb; exact Nat.le_refl _
  | k + 1, s, b, hb => by
    unfold Lib.splitB at hb
    split at hb
    · simp at hb; subst hb; exact Nat.le_refl _
    · rcases List.mem_cons.1 hb with rfl | hb
      · rw [ByteArray.size_extract]; omega
      · have := splitB_size sep k _ b hb
        rw [ByteArray.size_extract] at this
        omega
def sumL (l : List ByteArray) : Nat := (l.map fun b => b.size + 1).sum
theorem sumL_le {l : List ByteArray} {n : Nat} (h : ∀ b ∈ l, b.size ≤ n) : sumL l ≤ l.length * (n + 1) := by
  induction l with
  | nil => simp [sumL]
  | cons a l ih =>
    have h1 := ih fun b hb => h b (List.mem_cons_of_mem _ hb)
    have h2 := h a List.mem_cons_self
    have e : sumL (a :: l) = a.size + 1 + sumL l := by simp [sumL]
    rw [e, List.length_cons, Nat.add_mul]
    omega
theorem sumL_snoc (l : List ByteArray) (b : ByteArray) : sumL (l ++ [b]) = sumL l + (b.size + 1) := by simp [sumL]
theorem split_any (s : ByteArray) (hs : s.size ≤ 20000) (w : World) (hE : Env w) : Calls Tryz.prog 73 #[.string s, .string ⟨#[10]⟩] w fun e w' =>
    e = .returned (.slice (some ⟨w.heap.size, 0, none⟩) (linesB s).length (linesB s).length) ∧ w' = w.alloc (.cells ((linesB s).map Value.string).toArray 9) := by
  obtain ⟨m, hm⟩ := hE.mx
  have := Tryz.strings_Split s ⟨#[10]⟩ m w (by omega) hm (by decide)
  rw [linesB_len]
  exact this
/-- What Place hands back. -/
def placeR (s : ByteArray) (line column : Int) : Int × Int :=
  if 20000 < s.size then (0, 2) else if line < 1 ∨ ((linesB s).length : Int) < line then (0, 1)
  else if column < 1 ∨ ((((linesB s).getD (line.toNat - 1) ⟨#[]⟩).size : Nat) : Int) + 1 < column then (0, 1)
  else (column - 1 + sumL ((linesB s).take (line.toNat - 1)), 0)
set_option maxHeartbeats 1600000 in
theorem place_any (s : ByteArray) (line column : Int) (w : World) (hE : Env w) : Calls Tryz.prog 40 #[.string s, .int .i64 line, .int .i64 column] w fun e w' => e = .returned (.tuple #[.int .i64 (placeR s line column).1, .int .i64 (placeR s line column).2]) ∧ Below w.heap.size w w' := by
  by_cases h1 : 20000 < s.size
  · have HR : Hid (placeR s line column = (0, 2)) := if_pos h1
    go_enter Tryz.func40, Tryz.ntmps40
    go_wp2_with fail
    go_ret2
    exact ⟨ret_two (by rw [HR.out]; rfl) (by rw [HR.out]; rfl), Below.refl _ _⟩
  · have hsp := split_any s (by omega) w hE
    have hll := linesB_le s
    have hsum := sumL_le (l := linesB s) (n := s.size) (fun b hb => splitB_size _ _ _ b hb)
    have hR0 : placeR s line column = if line < 1 ∨ ((linesB s).length : Int) < line then (0, 1)
      else if column < 1 ∨ ((((linesB s).getD (line.toNat - 1) ⟨#[]⟩).size : Nat) : Int) + 1 < column then (0, 1)
      else (column - 1 + sumL ((linesB s).take (line.toNat - 1)), 0) := if_neg h1
    have hbsz : ∀ b ∈ linesB s, b.size ≤ 20000 := fun b hb => Nat.le_trans (splitB_size _ _ _ b hb) (by omega)
    revert hsp hll hsum hR0 hbsz
    generalize linesB s = ls
    intro hsp hll hsum hR0 hbsz
    have hmul : ls.length * (s.size + 1) ≤ 20001 * 20001 := Nat.mul_le_mul (by omega) (by omega)
    have HSP := hide hsp
    clear hsp
    by_cases h2 : line < 1
    · have HR : Hid (placeR s line column = (0, 1)) := hR0.trans (if_pos (.inl h2))
      clear hR0
      go_enter Tryz.func40, Tryz.ntmps40
      go_wp2_with (go_at_call 73; refine (unhide HSP).mono ?_; rintro e w' ⟨rfl, rfl⟩)
      go_ret2
      exact ⟨ret_two (by rw [HR.out]; rfl) (by rw [HR.out]; rfl), (Below.refl _ _).alloc (Nat.le_refl _) _⟩
    · by_cases h3 : (ls.length : Int) < line
      · have HR : Hid (placeR s line column = (0, 1)) := hR0.trans (if_pos (.inr h3))
        clear hR0
        go_enter Tryz.func40, Tryz.ntmps40
        go_wp2_with (go_at_call 73; refine (unhide HSP).mono ?_; rintro e w' ⟨rfl, rfl⟩)
        go_ret2
        exact ⟨ret_two (by rw [HR.out]; rfl) (by rw [HR.out]; rfl), (Below.refl _ _).alloc (Nat.le_refl _) _⟩
      · obtain ⟨n, rfl⟩ : ∃ n : Nat, line = (n : Int) + 1 := ⟨line.toNat - 1, by omega⟩
        have hnl : n < ls.length := by omega
        have e1 : ((n : Int) + 1).toNat - 1 = n := by omega
        rw [if_neg (by omega), e1] at hR0
        have hgd : ls.getD n ⟨#[]⟩ = ls[n] := by simp [List.getD, List.getElem?_eq_getElem hnl]
        rw [hgd] at hR0
        have hB := Blk.new w (ls.map Value.string) 9
        have hcell : (w.alloc (.cells (ls.map Value.string).toArray 9)).cell? ⟨w.heap.size, n, none⟩ = some (.string ls[n]) := by
          rw [hB.cell n, List.getElem?_map, List.getElem?_eq_getElem hnl]; rfl
        have hsz := hbsz ls[n] (List.getElem_mem hnl)
        by_cases h4 : column < 1
        · have HR : Hid (placeR s ((n : Int) + 1) column = (0, 1)) := hR0.trans (if_pos (.inl h4))
          clear hR0 hgd
          go_enter Tryz.func40, Tryz.ntmps40
          go_wp2_with (go_at_call 73; refine (unhide HSP).mono ?_; rintro e w' ⟨rfl, rfl⟩)
          go_ret2
          exact ⟨ret_two (by rw [HR.out]; rfl) (by rw [HR.out]; rfl), (Below.refl _ _).alloc (Nat.le_refl _) _⟩
        · by_cases h5 : ((ls[n].size : Nat) : Int) + 1 < column
          · have HR : Hid (placeR s ((n : Int) + 1) column = (0, 1)) := hR0.trans (if_pos (.inr h5))
            clear hR0 hgd
            go_enter Tryz.func40, Tryz.ntmps40
            go_wp2_with (go_at_call 73; refine (unhide HSP).mono ?_; rintro e w' ⟨rfl, rfl⟩)
            go_ret2
            exact ⟨ret_two (by rw [HR.out]; rfl) (by rw [HR.out]; rfl), (Below.refl _ _).alloc (Nat.le_refl _) _⟩
          · have HR : Hid (placeR s ((n : Int) + 1) column = (column - 1 + sumL (ls.take n), 0)) := hR0.trans (if_neg (by omega))
            clear hR0 hgd
            obtain ⟨c, rfl⟩ : ∃ c : Nat, column = (c : Int) + 1 := ⟨column.toNat - 1, by omega⟩
            go_enter Tryz.func40, Tryz.ntmps40
            go_wp2_with (go_at_call 73; refine (unhide HSP).mono ?_; rintro e w' ⟨rfl, rfl⟩)
            have HL := hide hB
            clear hcell hB
            go_loop [9, 45] (fun a i => ∃ j : Nat, j ≤ n ∧ i = .int .i64 j ∧ a = .int .i64 (c + sumL (ls.take j) : Nat)) (fun _ i => n - (intOf i).toNat)
            case atStart => exact ⟨0, Nat.zero_le _, rfl, by simp [sumL]⟩
            case round =>
              obtain ⟨j, hj, rfl, rfl⟩ := hrel
              by_cases hlt : j < n
              · have hjl : j < ls.length := by omega
                have hcj : (w.alloc (.cells (ls.map Value.string).toArray 9)).cell? ⟨w.heap.size, j, none⟩ = some (.string ls[j]) := by
                  rw [(unhide HL).cell j, List.getElem?_map, List.getElem?_eq_getElem hjl]; rfl
                have hT := List.take_succ_eq_append_getElem hjl
                have hs2 := sumL_snoc (ls.take j) ls[j]
                rw [← hT] at hs2
                have hbound := sumL_le (l := ls.take (j + 1)) (n := 20000) (fun b hb => hbsz b (List.mem_of_mem_take hb))
                have hb2 : (ls.take (j + 1)).length * (20000 + 1) ≤ 20001 * 20001 := Nat.mul_le_mul (Nat.le_trans (List.length_take_le _ _) (by omega)) (Nat.le_refl _)
                have hb3 : c + (sumL (ls.take j) + (ls[j].size + 1)) ≤ 500000000 := by omega
                have HS2 := Lib.hid hs2
                clear hs2 hT hbound hb2
                go_wp2
                go_round
                case rel => exact ⟨j + 1, by omega, by go_num, by rw [HS2.out]; simp; try omega⟩
                case measure => simp [intOf]; omega
              · obtain rfl : j = n := by omega
                go_wp2
                go_ret2
                refine ⟨ret_two ?_ (by rw [HR.out]; rfl), (Below.refl _ _).alloc (Nat.le_refl _) _⟩
                rw [HR.out]
                show Value.int .i64 _ = Value.int .i64 _
                congr 1
                simp
end Go.Proofs.YteknngncnbfbnaaGreatDoor
