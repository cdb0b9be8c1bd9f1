/- Part 8 of 53: the texts Li, one behind the other. -/
import Derived.Test.YteaokkaidcbdlaaGreatDoorM7
namespace Go.Proofs.YteaokkaidcbdlaaGreatDoor
open Go Go.RowKit Go.Shelf
def methLight (m : MethD) : Bool := decide (m.args.length ≤ 8) && (decide (m.raises.length ≤ 8) && (decide (m.name.size ≤ 40) && decide (m.proc.size ≤ 40)))
def tyLight (t : TyD) : Bool := (decide (t.parts.length ≤ 10) && (decide (t.meths.length ≤ 10) && (decide (t.overs.length ≤ 10) && (decide (t.brand.size ≤ 40) && decide (t.opq.size ≤ 40))))) && t.meths.all methLight
def lightB (G : List TyD) : Bool := (G.take 410).all tyLight && (decide (G.length ≤ 24) || (decide (400 < G.length) && decide (G.length ≤ 403)))
theorem all_no {α : Type} {p : α → Bool} {l : List α} {k n : Nat} (h : k < l.length) (hn : k < n) (hp : p l[k] = false) : (l.take n).all p = false := by
 rw [List.all_eq_false]
 exact ⟨l[k], by rw [List.mem_take_iff_getElem]; exact ⟨k, by omega, rfl⟩, by simp [hp]⟩
set_option maxRecDepth 100000 in
set_option maxHeartbeats 16000000 in
theorem light_any (gv : Value) (G : List TyD) (W : World) (hG0 : GrAt W gv G) :
    Calls Tryz.prog 13 #[gv] W fun e w' => e = .returned (.bool (lightB G)) ∧ Below W.heap.size W w' := by
  obtain ⟨o, cap, rfl⟩ := hG0.form
  obtain ⟨_, hcm, hcl, _⟩ := hG0.at
  have h63 : G.length ≤ 9223372036854775807 := by unfold maxLen at hcm; omega
  clear hcm hcl
  go_enter Tryz.func13, Tryz.ntmps13
  go_wp2
  go_loopg [3] G.length (fun n i wr => ∃ k : Nat, k ≤ G.length ∧ k ≤ 410 ∧ n = G.length - k ∧ i = .int .i64 k ∧ Below W.heap.size W wr ∧ Hid ((G.take k).all tyLight = true))
  case atStart => exact ⟨0, Nat.zero_le _, Nat.zero_le _, rfl, rfl, Below.refl _ _, Lib.hid rfl⟩
  case round =>
   obtain ⟨k, hk, hk4, hgk, rfl, hbw, HT⟩ := hrel
   by_cases hlt : k < G.length ∧ k < 410
   ·obtain ⟨hlt, hlt4⟩ := hlt
    have hlt' : (k : Int) < G.length := by omega
    have hlt4' : (k : Int) < 410 := by omega
    have hGr := hG0.below hbw
    obtain ⟨-, -, -, hat⟩ := hGr.at
    obtain ⟨b, off, rfl, v1, v2, v3, gl, k0, k1, k2, k3, k4, k5, k6, k7, k8, k9⟩ := hat k G[k] (List.getElem?_eq_getElem hlt)
    obtain ⟨t, ht⟩ : ∃ t, G[k] = t := ⟨_, rfl⟩
    rw [ht] at gl k0 k1 k2 k3 k4 k5 k6
    obtain ⟨oa, ca, rfl⟩ := gl.parts.form
    obtain ⟨oc, cc, rfl⟩ := gl.meths.form
    obtain ⟨od, cd, rfl⟩ := gl.overs.form
    have hbs := hbw.size
    have HNO := fun (h : tyLight t = false) => Lib.hid (show lightB G = false by unfold lightB; rw [all_no hlt hlt4 (by rw [ht]; exact h)]; rfl)
    obtain ⟨NP, hNP⟩ : ∃ NP, t.parts.length = NP := ⟨_, rfl⟩
    obtain ⟨NM, hNM⟩ : ∃ NM, t.meths.length = NM := ⟨_, rfl⟩
    obtain ⟨NO, hNO⟩ : ∃ NO, t.overs.length = NO := ⟨_, rfl⟩
    rw [hNP] at k7
    rw [hNM] at k8
    rw [hNO] at k9
    have hMs := gl.meths
    rw [hNM] at hMs
    have HTL := fun h1 h2 h3 h4 h5 => Lib.hid (show tyLight t = t.meths.all methLight by unfold tyLight; rw [hNP, hNM, hNO, decide_eq_true (p := NP ≤ 10) h1, decide_eq_true (p := NM ≤ 10) h2, decide_eq_true (p := NO ≤ 10) h3, decide_eq_true (p := t.brand.size ≤ 40) h4, decide_eq_true (p := t.opq.size ≤ 40) h5]; rfl)
    rcases (show 10 < NP ∨ (NP ≤ 10 ∧ 10 < NM) ∨ (NP ≤ 10 ∧ NM ≤ 10 ∧ 10 < NO) ∨ (NP ≤ 10 ∧ NM ≤ 10 ∧ NO ≤ 10 ∧ 40 < t.brand.size) ∨ (NP ≤ 10 ∧ NM ≤ 10 ∧ NO ≤ 10 ∧ t.brand.size ≤ 40 ∧ 40 < t.opq.size) ∨ (NP ≤ 10 ∧ NM ≤ 10 ∧ NO ≤ 10 ∧ t.brand.size ≤ 40 ∧ t.opq.size ≤ 40) by omega) with h1 | ⟨h1, h2⟩ | ⟨h1, h2, h3⟩ | ⟨h1, h2, h3, h4⟩ | ⟨h1, h2, h3, h4, h5⟩ | ⟨h1, h2, h3, h4, h5⟩
    case inr.inr.inr.inr.inr =>
     have HT2 := HTL h1 h2 h3 h4 h5
     have hA := Blk.new wr [.int .u8 t.kind, .int .i64 t.low, .int .i64 t.high, .bool t.branded, .string t.brand, .string t.opq, .int .i64 t.super, .slice oa NP ca, .slice oc NM cc, .slice od NO cd] 62
     have BA := (Below.refl wr.heap.size wr).alloc (Nat.le_refl _) (.cells ([.int .u8 t.kind, .int .i64 t.low, .int .i64 t.high, .bool t.branded, .string t.brand, .string t.opq, .int .i64 t.super, .slice oa NP ca, .slice oc NM cc, .slice od NO cd] : List Value).toArray 62)
     have hMA := hMs.mono fun _ _ _ _ => MethAt.go (Holds.below BA)
     change Blk (wr.alloc (.cells #[.int .u8 t.kind, .int .i64 t.low, .int .i64 t.high, .bool t.branded, .string t.brand, .string t.opq, .int .i64 t.super, .slice oa NP ca, .slice oc NM cc, .slice od NO cd] 62)) _ _ _ at hA
     change Below _ _ (wr.alloc (.cells #[.int .u8 t.kind, .int .i64 t.low, .int .i64 t.high, .bool t.branded, .string t.brand, .string t.opq, .int .i64 t.super, .slice oa NP ca, .slice oc NM cc, .slice od NO cd] 62)) at BA
     change SliceOf 5 (MethAt (wr.alloc (.cells #[.int .u8 t.kind, .int .i64 t.low, .int .i64 t.high, .bool t.branded, .string t.brand, .string t.opq, .int .i64 t.super, .slice oa NP ca, .slice oc NM cc, .slice od NO cd] 62))) _ _ at hMA
     clear HTL hGr hat hMs gl
     go_wp2
     generalize wr.alloc (.cells #[.int .u8 t.kind, .int .i64 t.low, .int .i64 t.high, .bool t.branded, .string t.brand, .string t.opq, .int .i64 t.super, .slice oa NP ca, .slice oc NM cc, .slice od NO cd] 62) = A at hA BA hMA ⊢
     obtain ⟨-, -, -, hmt⟩ := hMA.at
     have c8 : A.cell? ⟨wr.heap.size, 8, none⟩ = some (.slice oc NM cc) := hA.cell 8
     clear hA hMA
     have hBB0 := hbw.trans (BA.mono hbs)
     clear BA hbs
     generalize wr.heap.size = bk at c8 ⊢
     go_loopg [5] NM (fun n j w2 => ∃ m : Nat, m ≤ NM ∧ n = NM - m ∧ j = .int .i64 m ∧ w2 = A ∧ Hid ((t.meths.take m).all methLight = true))
     case atStart => exact ⟨0, Nat.zero_le _, rfl, rfl, rfl, Lib.hid rfl⟩
     case round =>
      obtain ⟨m, hm, hgm, rfl, rfl, HM⟩ := hrel
      by_cases hmlt : m < NM
      ·have hmlt' : (m : Int) < NM := by omega
       have hmltp : m < t.meths.length := by omega
       obtain ⟨b2, off2, rfl, va, vr, hv, m0, m1, m2, m3, m4⟩ := hmt m t.meths[m] (List.getElem?_eq_getElem hmltp)
       obtain ⟨y, hy⟩ : ∃ y, t.meths[m] = y := ⟨_, rfl⟩
       rw [hy] at hv m0 m2 m4
       obtain ⟨xa, ya, rfl⟩ := hv.args.form
       obtain ⟨xr, yr, rfl⟩ := hv.raises.form
       have HMN := fun (h : methLight y = false) => HNO (by rw [HT2.out, List.all_eq_false]; exact ⟨y, by rw [← hy]; exact List.getElem_mem hmltp, by simp [h]⟩)
       have HMY := fun (h : methLight y = true) => Lib.hid (show (t.meths.take (m + 1)).all methLight = true by rw [all_take _ _ _ hmltp, HM.out, hy, h]; rfl)
       obtain ⟨YA, hYA⟩ : ∃ YA, y.args.length = YA := ⟨_, rfl⟩
       obtain ⟨YR, hYR⟩ : ∃ YR, y.raises.length = YR := ⟨_, rfl⟩
       rw [hYA] at m1
       rw [hYR] at m3
       have hBB := hBB0
       rcases (show 8 < YA ∨ (YA ≤ 8 ∧ 8 < YR) ∨ (YA ≤ 8 ∧ YR ≤ 8 ∧ 40 < y.name.size) ∨ (YA ≤ 8 ∧ YR ≤ 8 ∧ y.name.size ≤ 40 ∧ 40 < y.proc.size) ∨ (YA ≤ 8 ∧ YR ≤ 8 ∧ y.name.size ≤ 40 ∧ y.proc.size ≤ 40) by omega) with g1 | ⟨g1, g2⟩ | ⟨g1, g2, g3⟩ | ⟨g1, g2, g3, g4⟩ | ⟨g1, g2, g3, g4⟩
       case inr.inr.inr.inr =>
        have HX := HMY (by unfold methLight; rw [hYA, hYR]; simp; omega)
        clear HNO HMN HMY hv hy hYA hYR hmt hG0 hBB hBB0 HM HT2
        go_wp2
        go_roundg (NM - (m + 1))
        case measure => omega
        case rel => exact ⟨m + 1, by omega, rfl, by go_num, rfl, HX⟩
       all_goals
        have HX := HMN (by unfold methLight; rw [hYA, hYR]; simp; omega)
        clear HNO HMN HMY hv hy hYA hYR hmt hG0 hBB0 HM HT2
        go_wp2
        go_ret
        exact ⟨ret_bool HX.out.symm, hBB⟩
      ·have hmn : m = NM := by omega
       have hmlt' : ¬ (m : Int) < NM := by omega
       have hX : tyLight t = true := by
        have h := HM.out
        rw [List.take_of_length_le (by omega)] at h
        rw [HT2.out]; exact h
       have HX := Lib.hid (show (G.take (k + 1)).all tyLight = true by rw [all_take _ _ _ hlt, HT.out, ht, hX]; rfl)
       have hBB := hBB0
       clear HNO hmt hG0 hBB0 HM HT2 hX HT hmn hmlt
       go_wp2
       go_roundg (G.length - (k + 1))
       case measure => omega
       case rel => exact ⟨k + 1, by omega, by omega, rfl, by go_num, hBB, HX⟩
    all_goals
     have HX := HNO (by unfold tyLight; rw [hNP, hNM, hNO]; simp; omega)
     clear HNO HTL hat gl hGr HT hG0 hMs ht hNP hNM hNO
     go_wp2
     go_ret
     exact ⟨ret_bool HX.out.symm, hbw.alloc hbs _⟩
   ·have hX : (G.take 410).all tyLight = true := by
      have h := HT.out
      by_cases hkl : k = G.length
      ·rw [hkl, List.take_length] at h
       rw [List.all_eq_true] at h ⊢
       exact fun x hx => h x (List.mem_of_mem_take hx)
      ·have : k = 410 := by omega
       rw [this] at h; exact h
    rcases (show G.length ≤ 24 ∨ (24 < G.length ∧ G.length ≤ 400) ∨ (400 < G.length ∧ G.length ≤ 403) ∨ (400 < G.length ∧ 403 < G.length) by omega) with h1 | ⟨h0, h1⟩ | ⟨h1, h2⟩ | ⟨h1, h2⟩
    all_goals
     have HX := Lib.hid (show lightB G = (decide (G.length ≤ 24) || (decide (400 < G.length) && decide (G.length ≤ 403))) by unfold lightB; rw [hX]; rfl)
     clear hX HT hG0
     have hkk : G.length ≤ k ∨ 410 ≤ k := by omega
     rcases hkk with hkk | hkk
     ·obtain rfl : k = G.length := by omega
      go_wp2
      go_ret
      exact ⟨ret_bool (by rw [HX.out, Bool.eq_iff_iff]; simp; try omega), hbw⟩
     ·first
      | (exfalso; omega)
      | (have q1 : ¬ (k : Int) < 410 := by omega
         clear hkk hlt hk4 hgk hk h2
         by_cases q2 : (k : Int) < G.length
         all_goals
          go_wp2
          go_ret
          exact ⟨ret_bool (by rw [HX.out, Bool.eq_iff_iff]; simp; try omega), hbw⟩)
end Go.Proofs.YteaokkaidcbdlaaGreatDoor

