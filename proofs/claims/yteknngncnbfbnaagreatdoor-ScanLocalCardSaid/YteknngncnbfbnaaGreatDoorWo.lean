/- The lists of words and signs, of the program and of the reference; strings.asciiSpace is taken as laid. -/
import Derived.Test.YteknngncnbfbnaaGreatDoorCu
import Derived.Test.YteknngncnbfbnaaGreatDoorShelf
import Derived.Tactics
import Derived.Tactics2
import Derived.WalkKit
import Derived.LoopTactic
import Derived.Outline
import Derived.Lib.Hide
import Derived.Handy
import Derived.KernelRfl
import Derived.Deep.LoopGhost
import Derived.CallsIn
import Derived.Deep.QuietTactic
import Derived.BigQuiet
import Derived.Deep.Draws
import Derived.WalkSpells
import Derived.Lib.Walk
import Derived.Lib.Strings
namespace Go.Proofs.YteknngncnbfbnaaGreatDoor
open Go Go.RowKit

def wordsL : List (List UInt8) := [
  [65, 76, 69, 82, 84],
  [65, 76, 69, 82, 84, 69, 68],
  [65, 76, 76],
  [65, 78, 68],
  [65, 82, 82, 65, 89],
  [66, 69, 71, 73, 78],
  [66, 79, 79, 76, 69, 65, 78],
  [66, 82, 65, 78, 68, 69, 68],
  [67, 79, 78, 68, 73, 84, 73, 79, 78],
  [67, 79, 78, 83, 84],
  [68, 73, 86],
  [68, 79],
  [69, 76, 83, 69],
  [69, 76, 83, 73, 70],
  [69, 78, 68],
  [69, 88, 67, 69, 80, 84],
  [69, 88, 67, 69, 80, 84, 73, 79, 78],
  [69, 88, 80, 79, 82, 84, 83],
  [70, 65, 76, 83, 69],
  [70, 73, 78, 65, 76, 76, 89],
  [70, 79, 82, 75],
  [71, 69, 78, 69, 82, 73, 67],
  [73, 70],
  [73, 77, 80, 79, 82, 84],
  [73, 78, 84, 69, 71, 69, 82],
  [73, 78, 84, 69, 82, 70, 65, 67, 69],
  [74, 79, 73, 78],
  [76, 79, 67, 75],
  [76, 79, 79, 80, 72, 79, 76, 69],
  [77, 69, 84, 72, 79, 68, 83],
  [77, 79, 68],
  [77, 79, 68, 85, 76, 69],
  [77, 85, 84, 69, 88],
  [78, 65, 82, 82, 79, 87],
  [78, 69, 87],
  [78, 73, 76],
  [78, 79, 84],
  [78, 85, 76, 76],
  [78, 85, 77, 66, 69, 82],
  [79, 66, 74, 69, 67, 84],
  [79, 70],
  [79, 82],
  [79, 86, 69, 82, 82, 73, 68, 69, 83],
  [80, 82, 79, 67, 69, 68, 85, 82, 69],
  [80, 85, 84],
  [82, 65, 73, 83, 69],
  [82, 65, 73, 83, 69, 83],
  [82, 69, 67, 79, 82, 68],
  [82, 69, 70],
  [82, 69, 70, 65, 78, 89],
  [82, 69, 84, 85, 82, 78],
  [82, 69, 86, 69, 65, 76],
  [82, 79, 79, 84],
  [83, 73, 71, 78, 65, 76],
  [84, 72, 69, 78],
  [84, 82, 85, 69],
  [84, 82, 89],
  [84, 89, 80, 69],
  [84, 89, 80, 69, 67, 65, 83, 69],
  [85, 78, 83, 65, 70, 69],
  [86, 65, 82],
  [87, 65, 73, 84],
  [87, 72, 73, 76, 69]]
def signsL : List (List UInt8) := [[35], [40], [41], [42], [43], [44], [45], [46], [46, 46], [58], [58, 61], [59], [60], [60, 58], [60, 61], [61], [61, 62], [91], [93], [94], [123], [124], [125]]
def wordStr : ByteArray := ⟨#[65, 76, 69, 82, 84, 32, 65, 76, 69, 82, 84, 69, 68, 32, 65, 76, 76, 32, 65, 78, 68, 32, 65, 82, 82, 65, 89, 32, 66, 69, 71, 73, 78, 32, 66, 79, 79, 76, 69, 65, 78, 32, 66, 82, 65, 78, 68, 69, 68, 32, 67, 79, 78, 68, 73, 84, 73, 79, 78, 32, 67, 79, 78, 83, 84, 32, 68, 73, 86, 32, 68, 79, 32, 69, 76, 83, 69, 32, 69, 76, 83, 73, 70, 32, 69, 78, 68, 32, 69, 88, 67, 69, 80, 84, 32, 69, 88, 67, 69, 80, 84, 73, 79, 78, 32, 69, 88, 80, 79, 82, 84, 83, 32, 70, 65, 76, 83, 69, 32, 70, 73, 78, 65, 76, 76, 89, 32, 70, 79, 82, 75, 32, 71, 69, 78, 69, 82, 73, 67, 32, 73, 70, 32, 73, 77, 80, 79, 82, 84, 32, 73, 78, 84, 69, 71, 69, 82, 32, 73, 78, 84, 69, 82, 70, 65, 67, 69, 32, 74, 79, 73, 78, 32, 76, 79, 67, 75, 32, 76, 79, 79, 80, 72, 79, 76, 69, 32, 77, 69, 84, 72, 79, 68, 83, 32, 77, 79, 68, 32, 77, 79, 68, 85, 76, 69, 32, 77, 85, 84, 69, 88, 32, 78, 65, 82, 82, 79, 87, 32, 78, 69, 87, 32, 78, 73, 76, 32, 78, 79, 84, 32, 78, 85, 76, 76, 32, 78, 85, 77, 66, 69, 82, 32, 79, 66, 74, 69, 67, 84, 32, 79, 70, 32, 79, 82, 32, 79, 86, 69, 82, 82, 73, 68, 69, 83, 32, 80, 82, 79, 67, 69, 68, 85, 82, 69, 32, 80, 85, 84, 32, 82, 65, 73, 83, 69, 32, 82, 65, 73, 83, 69, 83, 32, 82, 69, 67, 79, 82, 68, 32, 82, 69, 70, 32, 82, 69, 70, 65, 78, 89, 32, 82, 69, 84, 85, 82, 78, 32, 82, 69, 86, 69, 65, 76, 32, 82, 79, 79, 84, 32, 83, 73, 71, 78, 65, 76, 32, 84, 72, 69, 78, 32, 84, 82, 85, 69, 32, 84, 82, 89, 32, 84, 89, 80, 69, 32, 84, 89, 80, 69, 67, 65, 83, 69, 32, 85, 78, 83, 65, 70, 69, 32, 86, 65, 82, 32, 87, 65, 73, 84, 32, 87, 72, 73, 76, 69]⟩
def signStr : ByteArray := ⟨#[35, 32, 40, 32, 41, 32, 42, 32, 43, 32, 44, 32, 45, 32, 46, 32, 46, 46, 32, 58, 32, 58, 61, 32, 59, 32, 60, 32, 60, 58, 32, 60, 61, 32, 61, 32, 61, 62, 32, 91, 32, 93, 32, 94, 32, 123, 32, 124, 32, 125]⟩
def mkS (l : List UInt8) : ByteArray := ⟨l.toArray⟩
def mkV (l : List UInt8) : Value := .string (mkS l)
theorem bs_mkS (l : List UInt8) : bs (mkS l) = l := by simp [bs, mkS]

/-- WHAT THE LIBRARY READS OF ITS OWN VARIABLES. -/
structure Env (w : World) : Prop where
  sp : Lib.TabIs Tryz.prog w "strings.asciiSpace" .u8 Lib.asciiSpaceTab
  p10 : Lib.TabIs Tryz.prog w "internal/strconv.uint64pow10" .u64 Lib.pow10Tab
  mx : ∃ m, w.cell? ⟨2, 0, none⟩ = some (.int .i64 m)
  sz : 10 ≤ w.heap.size
theorem gSp : Tryz.prog.globalNamed "strings.asciiSpace" = some 0 := by kernel_rfl
theorem gP10 : Tryz.prog.globalNamed "internal/strconv.uint64pow10" = some 4 := by kernel_rfl
theorem var_mono {P : Program} {g : Nat} {W W' : World} {n : String} {cs : Array Value} (h : W'.heap[g]? = W.heap[g]?) (hg : P.globalNamed n = some g) (hv : W.var? P n = some cs) : W'.var? P n = some cs := by
  unfold World.var? at *
  rw [hg] at hv ⊢
  simp only [Option.bind_some] at hv ⊢
  rw [h]; exact hv
theorem Env.mono {w w' : World} (h : Env w) (hb : ∀ k, k < 10 → w'.heap[k]? = w.heap[k]?) (hs : w.heap.size ≤ w'.heap.size) : Env w' :=
  ⟨var_mono (hb _ (by decide)) gSp h.sp, var_mono (hb _ (by decide)) gP10 h.p10, by obtain ⟨m, hm⟩ := h.mx; exact ⟨m, (World.cell?_of_block (w := w) (a := ⟨2, 0, none⟩) (hb 2 (by decide))).trans hm⟩, Nat.le_trans h.sz hs⟩
theorem Env.below {B : Nat} {w w' : World} (h : Env w) (hb : Below B w w') (hB : 10 ≤ B) : Env w' := h.mono (fun k hk => hb.block k (Nat.lt_of_lt_of_le hk hB)) hb.size
theorem Env.sk {b : Nat} {w w' : World} (h : Env w) (hb : Sk b w w') (hB : 10 ≤ b) : Env w' := h.mono (fun k hk => hb.block k (Nat.lt_of_lt_of_le hk h.sz) (by omega)) hb.size
theorem Env.alloc {w : World} (h : Env w) (o : Obj) : Env (w.alloc o) := h.mono (fun k hk => Below.heap_alloc _ _ _ (Nat.lt_of_lt_of_le hk h.sz)) (by simp)
theorem Env.drewN {w : World} (h : Env w) (n : Nat) : Env (w.drewN n) := h.mono (fun _ _ => rfl) (Nat.le_refl _)
theorem Env.drew {w : World} (h : Env w) : Env w.drew := h.mono (fun _ _ => rfl) (Nat.le_refl _)
theorem Env.setCell {w : World} (h : Env w) {a : Addr} (ha : 10 ≤ a.block) (v : Value) : Env (w.setCell a v) := h.mono (fun k hk => Below.heap_setCell _ _ _ _ (by omega)) (by simp)

theorem ascii_of {l : List UInt8} (h : l.all (fun b => decide (b.toNat < 128)) = true) : ∀ (j : Nat) (b : UInt8), l[j]? = some b → b.toNat < 128 := fun _ b hj =>
  of_decide_eq_true (List.all_eq_true.1 h b (List.mem_of_getElem? hj))

theorem fieldsW : Lib.fields wordStr.data.toList = wordsL := by kernel_rfl
theorem fieldsS : Lib.fields signStr.data.toList = signsL := by kernel_rfl
set_option maxRecDepth 100000 in
theorem words_any (w : World) (hE : Env w) : Calls Tryz.prog 15 #[] w fun e w' => e = .returned (.slice (some ⟨w.heap.size, 0, none⟩) 63 63) ∧ w' = w.alloc (.cells (wordsL.map mkV).toArray 9) := by
  have hc := Tryz.strings_Fields wordStr w (of_decide_eq_true (by kernel_rfl)) (ascii_of (by kernel_rfl)) hE.sp
  rw [fieldsW] at hc
  go_enter Tryz.func15, Tryz.ntmps15
  go_wp2_with (go_at_call 45; refine hc.mono ?_; rintro e w' ⟨rfl, rfl⟩)
  go_ret
  exact ⟨rfl, rfl⟩
theorem signs_any (w : World) (hE : Env w) : Calls Tryz.prog 17 #[] w fun e w' => e = .returned (.slice (some ⟨w.heap.size, 0, none⟩) 23 23) ∧ w' = w.alloc (.cells (signsL.map mkV).toArray 9) := by
  have hc := Tryz.strings_Fields signStr w (of_decide_eq_true (by kernel_rfl)) (ascii_of (by kernel_rfl)) hE.sp
  rw [fieldsS] at hc
  go_enter Tryz.func17, Tryz.ntmps17
  go_wp2_with (go_at_call 45; refine hc.mono ?_; rintro e w' ⟨rfl, rfl⟩)
  go_ret
  exact ⟨rfl, rfl⟩
theorem refSigns_any (w : World) : Calls Tryz.prog 18 #[] w fun e w' => e = .returned (.slice (some ⟨w.heap.size, 0, none⟩) 23 23) ∧ w' = w.alloc (.cells (signsL.map mkV).toArray 9) := by
  go_enter Tryz.func18, Tryz.ntmps18
  go_wp2
  go_ret
  exact ⟨rfl, rfl⟩
theorem refWords_any (w : World) : Calls Tryz.prog 16 #[] w fun e w' => e = .returned (.slice (some ⟨w.heap.size, 0, none⟩) 63 63) ∧ w' = w.alloc (.cells (wordsL.map mkV).toArray 9) := by
  go_enter Tryz.func16, Tryz.ntmps16
  go_wp2
  go_ret
  exact ⟨rfl, rfl⟩
end Go.Proofs.YteknngncnbfbnaaGreatDoor
