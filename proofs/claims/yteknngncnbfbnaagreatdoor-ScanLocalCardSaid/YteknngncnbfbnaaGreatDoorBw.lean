/- strings.Builder's WriteString at this program, and the blanks in the place of a text. -/
import Derived.Test.YteknngncnbfbnaaGreatDoorPo
import Derived.RangeFuncNested
import Derived.RangeFuncBound
import Derived.RangeFuncCalls
import Derived.RangeFuncLeaves
import Derived.RangeFuncBox
import Derived.Shelf.Abstract
import Derived.WalkKit
import Derived.OwnWalkIn
import Derived.TacticsInMore
import Derived.LoopNIn
import Derived.LoopIn
import Derived.RecoverIn
import Derived.Maps.AppendAt
import Derived.Outline
import Derived.Handy
import Derived.Deep.LoopGhost
import Derived.RegionTactic
import Derived.ChangeAlike
import Derived.Deep.QuietTactic
import Derived.BigQuiet
import Derived.StillTailTactics
import Derived.Deep.RegionWith
import Derived.LoopTactic
import Derived.OwnWalk
import Derived.Deep.AppendLies
import Derived.Deep.DeepCutAuto
import Derived.KernelRfl
import Derived.KernelRfl
import Derived.Laws.IdiomStrings
import Derived.Lib.ConvBytes
namespace Go.Proofs.YteknngncnbfbnaaGreatDoor
open Go Go.RowKit Go.Shelf
open Go.RowKit
/-- The table of numbers: the library's text, as it stands in this program. -/
def laysB : Go.Shelf.Ren := ⟨fun | 166 => 69 | 240 => 92 | 276 => 111 | n => n, fun | 70 => 85 | 9 => 9 | 0 => 0 | 72 => 88 | 37 => 86 | 127 => 110 | 3 => 3 | 5 => 5 | 4 => 4 | 20 => 20 | 75 => 90 | 80 => 93 | 164 => 135 | n => n, fun | n => n⟩
theorem laysB166 : Go.Proofs.Lays.n166 Tryz.prog laysB := {
  mixed := by kernel_rfl
  f166 := Tryz.func69.trans (congrArg some (by kernel_rfl))
  f240 := Tryz.func92.trans (congrArg some (by kernel_rfl))
  f276 := Tryz.func111.trans (congrArg some (by kernel_rfl))
  t0 := Tryz.underlying0
  a0 := Tryz.isAgg0
  z0 := Tryz.sizeOf0
  v0 := Tryz.zeroValue0
  t3 := Tryz.underlying3
  a3 := Tryz.isAgg3
  z3 := Tryz.sizeOf3
  v3 := Tryz.zeroValue3
  t4 := Tryz.underlying4
  a4 := Tryz.isAgg4
  z4 := Tryz.sizeOf4
  v4 := Tryz.zeroValue4
  t9 := Tryz.underlying9
  a9 := Tryz.isAgg9
  z9 := Tryz.sizeOf9
  v9 := Tryz.zeroValue9
  t20 := Tryz.underlying20
  a20 := Tryz.isAgg20
  z20 := Tryz.sizeOf20
  v20 := Tryz.zeroValue20
  t37 := Tryz.underlying86
  a37 := Tryz.isAgg86
  z37 := Tryz.sizeOf86
  v37 := Tryz.zeroValue86
  t70 := Tryz.underlying85
  a70 := Tryz.isAgg85
  z70 := Tryz.sizeOf85
  v70 := Tryz.zeroValue85
  t72 := Tryz.underlying88
  a72 := Tryz.isAgg88
  z72 := Tryz.sizeOf88
  v72 := Tryz.zeroValue88
  t75 := Tryz.underlying90
  a75 := Tryz.isAgg90
  z75 := Tryz.sizeOf90
  v75 := Tryz.zeroValue90
  t164 := Tryz.underlying135
  a164 := Tryz.isAgg135
  z164 := Tryz.sizeOf135
  v164 := Tryz.zeroValue135 }
theorem laysBx : Builder.Extra Tryz.prog laysB := {
  sizeBuilder := by kernel_rfl
  liesBuilder := by kernel_rfl
  t5 := Tryz.underlying5
  a5 := Tryz.isAgg5
  z5 := Tryz.sizeOf5
  v5 := Tryz.zeroValue5
  infoByte := by kernel_rfl
  cellsByte := by kernel_rfl
  sizeByte := by kernel_rfl
  neB5 := by decide }
set_option maxRecDepth 100000 in
theorem writeString (B b : Nat) (bs : List Value) (s : ByteArray) (w : World) (h : Lib.IsBuilderF 88 5 B b bs w) (hlen : bs.length + s.size ≤ 140737488355328) (hBw : B ≤ w.heap.size) :
    Calls Tryz.prog 69 #[.pointer (some ⟨b, 0, none⟩), .string s] w fun e w' => e = .returned (.tuple #[.int .i64 s.size, .nilIface]) ∧ Lib.BuilderAtF 88 5 B b (.pointer (some ⟨b, 0, none⟩)) (bs ++ Lib.strCells s) w' ∧ Below B w w' ∧ Lib.OthersKept 5 (some b) w w' :=
  by
  have h1 := Any.Builder_WriteString_k laysB166 laysBx B b bs s w
  have h2 := h1 h
  have h3 := h2 hlen hBw
  clear h1 h2
  exact h3
/-- Blanks in the place of all bytes but line feeds. -/
def blk8 (c : UInt8) : UInt8 := if c = 10 then 10 else 32
def blankedL (l : List UInt8) : List UInt8 := l.map blk8
/-- A row of bytes in a block of its own, the first of which are known. -/
def Rb (W : World) (N : Nat) (l : List UInt8) : Prop := ∃ C : Array Value, W.heap[N]? = some (.cells C 5 (C.size, C.size + 1)) ∧ ∀ j (h : j < l.length), C[j]? = some (.int .u8 (l[j].toNat : Int))
theorem Rb.cell {W : World} {N : Nat} {l : List UInt8} (h : Rb W N l) (j : Nat) (hj : j < l.length) : W.cell? ⟨N, j, none⟩ = some (.int .u8 (l[j].toNat : Int)) := by
  obtain ⟨C, h1, h2⟩ := h
  rw [← h2 j hj]; simp [World.cell?, h1]
theorem Rb.frozen {W : World} {N : Nat} {l : List UInt8} (h : Rb W N l) (j : Nat) (hj : j < l.length) : W.frozen? ⟨N, j, none⟩ = false := by
  obtain ⟨C, h1, h2⟩ := h
  have := (Array.getElem?_eq_some_iff.1 (h2 j hj)).1
  simp [World.frozen?, h1]; omega
theorem Rb.set {W : World} {N : Nat} {l : List UInt8} (h : Rb W N l) (k : Nat) (c : UInt8) : Rb (W.setCell ⟨N, k, none⟩ (.int .u8 (c.toNat : Int))) N (l.set k c) := by
  obtain ⟨C, h1, h2⟩ := h
  have hlt : N < W.heap.size := (Array.getElem?_eq_some_iff.1 h1).1
  have h' : W.heap[N] = .cells C 5 (C.size, C.size + 1) := by simpa [Array.getElem?_eq_getElem hlt] using h1
  refine ⟨C.setIfInBounds k (.int .u8 (c.toNat : Int)), ?_, ?_⟩
  · show (W.heap.modify N _)[N]? = _
    rw [Array.getElem?_eq_getElem (by simpa using hlt), Array.getElem_modify_self, h']
    simp
  · intro j hj
    have hj' : j < l.length := by simpa using hj
    have hc := (Array.getElem?_eq_some_iff.1 (h2 j hj')).1
    by_cases e : k = j
    · subst e
      simp [hc]
    · rw [Array.getElem?_setIfInBounds_ne e, h2 j hj']
      simp [e]
theorem Rb.new (w : World) (s : ByteArray) : Rb (Lib.bytesWorld w 5 s) w.heap.size (bs s) := by
  refine ⟨_, Lib.bytesWorld_at_new w 5 s, fun j hj => ?_⟩
  have h := Lib.bytesWorld_cell w 5 s j (by rw [bs_len] at hj; exact hj)
  have h1 := Lib.bytesWorld_at_new w 5 s
  simp only [World.cell?, h1] at h
  have e : s.data.toList.getD j 0 = (bs s)[j] := by
    have : (bs s)[j]? = some (bs s)[j] := List.getElem?_eq_getElem hj
    unfold bs at *
    simp [this]
  rw [e] at h
  simpa using h
def mixL (l : List UInt8) (k : Nat) : List UInt8 := l.mapIdx fun j c => if j < k then blk8 c else c
theorem mixL_len (l : List UInt8) (k : Nat) : (mixL l k).length = l.length := by unfold mixL; simp
theorem mixL_at (l : List UInt8) (k : Nat) (h : k < l.length) : (mixL l k)[k]'(by rw [mixL_len]; exact h) = l[k] := by unfold mixL; simp
theorem mixL_zero (l : List UInt8) : mixL l 0 = l := by unfold mixL; exact List.ext_getElem (by simp) fun i h1 h2 => by simp
theorem mixL_all (l : List UInt8) : mixL l l.length = blankedL l := by unfold mixL blankedL; exact List.ext_getElem (by simp) fun i h1 h2 => by simp at h2; simp [h2]
theorem mixL_next (l : List UInt8) (k : Nat) (h : k < l.length) : mixL l (k + 1) = (mixL l k).set k (blk8 l[k]) := by
  unfold mixL
  refine List.ext_getElem (by simp) fun i h1 h2 => ?_
  simp only [List.getElem_mapIdx, List.getElem_set]
  by_cases e : k = i
  · subst e; simp
  · simp only [e, if_false]
    by_cases h3 : i < k
    · rw [if_pos h3, if_pos (by omega)]
    · rw [if_neg h3, if_neg (by omega)]
theorem mixL_same (l : List UInt8) (k : Nat) (h : k < l.length) (e : l[k] = 10) : mixL l (k + 1) = mixL l k := by
  rw [mixL_next l k h, e]
  refine List.ext_getElem (by simp) fun i h1 h2 => ?_
  by_cases hk : k = i
  · subst hk
    rw [List.getElem_set_self, mixL_at l k h, e]; rfl
  · rw [List.getElem_set_ne hk]
set_option maxHeartbeats 1000000 in
set_option maxRecDepth 100000 in
theorem blanked_any (s : ByteArray) (hs : s.size ≤ 20000) (w : World) : Calls Tryz.prog 70 #[.string s] w fun e w' => e = .returned (.string (mkS (blankedL (bs s)))) ∧ Below w.heap.size w w' := by
  have hR := Rb.new w s
  obtain ⟨l, hl⟩ : ∃ l, bs s = l := ⟨_, rfl⟩
  have hll : l.length = s.size := by rw [← hl, bs_len]
  rw [hl] at hR ⊢
  clear hl
  go_enter Tryz.func70, Tryz.ntmps70
  go_wp2
  rw [Lib.run_convert_string_bytes w 9 86 5 s (u := .string) Tryz.underlying9 Tryz.underlying86 Tryz.underlying5]
  simp only [Result.andThen]
  rw [Oper.upon_value]
  have hB : Below w.heap.size w (Lib.bytesWorld w 5 s) := ⟨rfl, rfl, rfl, by rw [Lib.bytesWorld_size]; omega, fun k hk => Lib.bytesWorld_at_old w 5 s k hk⟩
  generalize Lib.bytesWorld w 5 s = W1 at hR hB ⊢
  generalize grownCap w s.size 0 5 = cap
  have hR0 : Rb W1 w.heap.size (mixL l 0) := by rw [mixL_zero]; exact hR
  clear hR
  go_wp2
  go_loopw [4, 5, 10] (fun _ _ i wr => ∃ k : Nat, k ≤ s.size ∧ i = .int .i64 k ∧ Rb wr w.heap.size (mixL l k) ∧ Below w.heap.size w wr) (fun _ _ i _ => s.size - (intOf i).toNat)
  case atStart => exact ⟨0, Nat.zero_le _, rfl, hR0, hB⟩
  case round =>
    obtain ⟨k, hk, rfl, hr, hb⟩ := hrel
    by_cases hlt : k < s.size
    · have hkl : k < l.length := by omega
      have hkm : k < (mixL l k).length := by rw [mixL_len]; exact hkl
      have hc := hr.cell k hkm
      rw [mixL_at l k hkl] at hc
      have hz := hr.frozen k hkm
      by_cases h10 : l[k] = 10
      · have HR := Lib.hid hr
        have HN := Lib.hid (mixL_same l k hkl h10)
        rw [h10] at hc
        have hc' : wr.cell? ⟨w.heap.size, k, none⟩ = some (.int .u8 10) := hc
        clear hr hc
        go_wp2
        go_roundw
        case rel => exact ⟨k + 1, by omega, by go_num, by rw [HN.out]; exact HR.out, hb⟩
        case measure => simp [intOf]; omega
      · have hne : ¬ ((l[k].toNat : Int) = 10) := by
          intro e
          apply h10
          apply UInt8.toNat_inj.1
          have : (10 : UInt8).toNat = 10 := rfl
          omega
        have hS := hr.set k (blk8 l[k])
        rw [← mixL_next l k hkl] at hS
        have e32 : blk8 l[k] = 32 := if_neg h10
        rw [e32] at hS
        have HS := Lib.hid hS
        clear hS hr e32 h10
        generalize l[k].toNat = c at hc hne
        go_wp2
        go_roundw
        case rel => exact ⟨k + 1, by omega, by go_num, HS.out, hb.setCell (Nat.le_refl _) _⟩
        case measure => simp [intOf]; omega
    · obtain rfl : k = s.size := by omega
      have hfin : ∀ j (hj : j < (blankedL l).length), wr.cell? ((⟨w.heap.size, 0, none⟩ : Addr).add j) = some (.int .u8 ((blankedL l)[j].toNat : Int)) := fun j hj => by
        have e : mixL l s.size = blankedL l := by rw [← hll]; exact mixL_all l
        rw [e] at hr
        rw [add_zero_addr]
        exact hr.cell j hj
      have hlen : (blankedL l).length = s.size := by unfold blankedL; simp [hll]
      have hcv := run_convert_bytes_back (P := Tryz.prog) wr 86 9 5 ⟨w.heap.size, 0, none⟩ cap (blankedL l) Tryz.underlying86 Tryz.underlying5 Tryz.underlying9 hfin
      rw [hlen] at hcv
      clear hfin
      go_wp2
      go_ret
      exact ⟨rfl, hb⟩
end Go.Proofs.YteknngncnbfbnaaGreatDoor
