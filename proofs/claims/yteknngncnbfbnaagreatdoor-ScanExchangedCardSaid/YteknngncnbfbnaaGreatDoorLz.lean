/- ScanExchanged's function returns true, whatever it is called with (where the variables it reads hold what the program's text lays). -/
import Derived.Test.YteknngncnbfbnaaGreatDoorLx
import Derived.Test.YteknngncnbfbnaaGreatDoorLw
import Derived.RangeFuncNested
import Derived.RangeFuncBound
import Derived.RangeFuncCalls
import Derived.RangeFuncLeaves
import Derived.RangeFuncBox
import Derived.Shelf.Abstract
import Derived.WalkKit
import Derived.OwnWalkIn
import Derived.TacticsInMore
import Derived.LoopNIn
import Derived.LoopIn
import Derived.RecoverIn
import Derived.Maps.AppendAt
import Derived.Outline
import Derived.Handy
import Derived.Deep.LoopGhost
import Derived.RegionTactic
import Derived.ChangeAlike
import Derived.Deep.QuietTactic
import Derived.BigQuiet
import Derived.StillTailTactics
import Derived.Deep.RegionWith
import Derived.LoopTactic
import Derived.OwnWalk
import Derived.Deep.AppendLies
import Derived.Deep.DeepCutAuto
import Derived.KernelRfl
namespace Go.Proofs.YteknngncnbfbnaaGreatDoor
open Go Go.RowKit Go.Shelf
set_option maxRecDepth 100000 in
set_option maxHeartbeats 4000000 in
theorem exch_main (s t : ByteArray) (i k : Nat) (hs : s.size ≤ 1200) (ht : t.size ≤ 1200) (xs ys : List Bit) (hp : pcsL (bs s) = (xs, 0, 0)) (hq : pcsL (bs t) = (ys, 0, 0)) (hi : i < xs.length) (hk : k < ys.length) (he : xs[i].1 = ys[k].1) (h6 : 6 ≤ xs[i].1) (w : World) (hE : Env w) (hD : Db w) :
    Calls Tryz.prog 11 #[.string s, .string t, .int .i64 i, .int .i64 k] w fun e w' => e = .returned (.bool true) ∧ Below w.heap.size w w' := by
  have hs' : ¬ (1200 : Int) < s.size := by omega
  have ht' : ¬ (1200 : Int) < t.size := by omega
  have h1 := fun W hE => pieces_eq s W hE
  have h2 := fun W hE => pieces_eq t W hE
  have hxl := (pcsL_le (bs s)).1
  have hyl := (pcsL_le (bs t)).1
  rw [hp] at h1 hxl
  rw [hq] at h2 hyl
  simp only at hxl hyl
  have px := (pcsL_ok hp).1
  have py := (pcsL_ok hq).1
  have hcx : (cat xs).length ≤ 1200 := by rw [pcs_cat px, bs_len]; exact hs
  have hcy : (cat ys).length ≤ 1200 := by rw [pcs_cat py, bs_len]; exact ht
  have hcz := exch_cat hi hk
  have hpz := pcs_pcsL (exch_pcs px py hi hk he h6) (by omega)
  have h3 := fun W hE => pieces_eq (mkS (cat (xs.set i ys[k]))) W hE
  rw [bs_mkS, hpz] at h3
  have hzl : (xs.set i ys[k]).length = xs.length := List.length_set
  have H1 := hide h1
  have H2 := hide h2
  have H3 := hide h3
  have hgx : xs[i]? = some xs[i] := List.getElem?_eq_getElem hi
  have hgy : ys[k]? = some ys[k] := List.getElem?_eq_getElem hk
  have FS := Lib.hid (flat_set ys[k] hi)
  clear h1 h2 h3 hp hq px py hpz hs ht
  obtain ⟨hx0, hx1⟩ := flat_cell hgx
  obtain ⟨hy0, hy1⟩ := flat_cell hgy
  rw [he] at hx0 h6
  have hfl := flatB_len xs
  revert H3 hcz FS hx0 hx1 hy0 hy1 h6 hzl
  generalize hzz : xs.set i ys[k] = zs
  generalize ys[k] = y
  obtain ⟨kd, u⟩ := y
  intro h6 hcz hzl H3 FS hx0 hx1 hy0 hy1
  simp only at h6 FS hx0 hy0 hy1
  have h6' : ¬ (kd : Int) < 6 := by omega
  have d1 : decide ((i : Int) < 0) = false := decide_eq_false (by omega)
  have d2 : decide ((k : Int) < 0) = false := decide_eq_false (by omega)
  have d3 : decide ((xs.length : Int) ≤ i) = false := decide_eq_false (by omega)
  have d4 : decide ((ys.length : Int) ≤ k) = false := decide_eq_false (by omega)
  have d5 : decide ((kd : Int) < 6) = false := decide_eq_false (by omega)
  clear hzz he hgx hgy
  obtain ⟨i0, hi0, hz0, hz1, hz2⟩ := info_parts info38
  go_enter Tryz.func11, Tryz.ntmps11
  go_wp2_with fail
  refine (unhide H1 _ hE).mono ?_
  rintro e1 w1 ⟨v1, rfl, hH1, hb1⟩
  have hr1 : w1.ownsRow w.heap.size 38 2 v1 xs.length (flatB xs) := hH1.1
  obtain ⟨g1, c1, rfl, hl1, hc1⟩ := World.ownsRow.at_ hr1 (by omega)
  clear hr1 hH1
  have K1 := (Cells.nil w1).fault 0 0
  have B1 := hb1.alloc hb1.size (.cells #[.int .i64 0, .int .i64 0] 34)
  have R1 : Rows2 (w1.alloc (.cells #[.int .i64 0, .int .i64 0] 34)) g1 xs := ⟨by simp; omega, fun j u h => (World.cell?_alloc_lt w1 _ ⟨g1, j, none⟩ hl1).trans (hc1 j u h)⟩
  clear hb1 hl1 hc1
  go_wp2_with fail
  generalize w1.alloc (.cells #[.int .i64 0, .int .i64 0] 34) = V1 at K1 B1 R1 ⊢
  generalize w1.heap.size = n1 at K1 ⊢
  refine (unhide H2 V1 (hE.below B1 hE.sz)).mono ?_
  rintro e2 w2 ⟨v2, rfl, hH2, hb2⟩
  have hr2 : w2.ownsRow V1.heap.size 38 2 v2 ys.length (flatB ys) := hH2.1
  obtain ⟨g2, c2, rfl, hl2, hc2⟩ := World.ownsRow.at_ hr2 (by omega)
  clear hr2 hH2
  have K2 := (K1.below hb2).fault 0 0
  have B2 := (B1.trans (hb2.mono B1.size)).alloc (Nat.le_trans B1.size hb2.size) (.cells #[.int .i64 0, .int .i64 0] 34)
  have hb2' := hb2.alloc hb2.size (.cells #[.int .i64 0, .int .i64 0] 34)
  have R2 : Rows2 (w2.alloc (.cells #[.int .i64 0, .int .i64 0] 34)) g1 xs := ⟨Nat.lt_of_lt_of_le R1.1 hb2'.size, fun j u h => (hb2'.cell (p := ⟨g1, j, none⟩) R1.1).trans (R1.2 j u h)⟩
  have S2 : Rows2 (w2.alloc (.cells #[.int .i64 0, .int .i64 0] 34)) g2 ys := ⟨by simp; omega, fun j u h => (World.cell?_alloc_lt w2 _ ⟨g2, j, none⟩ hl2).trans (hc2 j u h)⟩
  clear hb2 hb2' hl2 hc2 K1 B1 R1
  go_wp2_with fail
  generalize w2.alloc (.cells #[.int .i64 0, .int .i64 0] 34) = V2 at K2 B2 R2 S2 ⊢
  generalize w2.heap.size = n2 at K2 ⊢
  have a0 := K2.get (a := ⟨n1, 0, none⟩) (v := .int .i64 0) (by simp)
  have b0 := K2.get (a := ⟨n2, 0, none⟩) (v := .int .i64 0) (by simp)
  have p0 := R2.2 _ _ hx0
  have q0 := S2.2 _ _ hy0
  clear K2
  go_quiet (fail)
  clear a0 b0 p0 q0
  have B3 := below_drewN' B2 nq
  have R3 : Rows2 (V2.drewN nq) g1 xs := R2
  have S3 : Rows2 (V2.drewN nq) g2 ys := S2
  clear B2 R2 S2
  generalize V2.drewN nq = V3 at B3 R3 S3 ⊢
  have hms : (flatB xs).length = xs.length * 2 := by rw [hfl, Nat.mul_comm]
  have hone : ∀ u ∈ flatB xs, u.oneCell' = true := by
    intro u hu
    unfold flatB at hu
    rw [List.mem_flatMap] at hu
    obtain ⟨a, _, ha⟩ := hu
    simp at ha
    rcases ha with rfl | rfl <;> rfl
  have hbs3 := B3.size
  have hnews : ∀ j u, (flatB xs)[j]? = some u → (V3.alloc (.cells #[] 38)).cell? ((⟨g1, 0, none⟩ : Addr).add j) = some u := by
    intro j u h
    rw [add_zero_addr]
    exact (World.cell?_alloc_lt V3 _ ⟨g1, j, none⟩ R3.1).trans (R3.2 j u h)
  have hmade : (V3.alloc (.cells #[] 38)).ownsRow w.heap.size 38 2 (.slice (some ⟨V3.heap.size, 0, none⟩) 0 0) 0 [] := World.ownsRow_made V3 #[] 0 hbs3 (by unfold maxLen; omega) rfl
  go_wp2_with (at_builtin; refine wpList_append_own _ rfl _ _ 32 rfl w.heap.size 38 i0 (.agg #[.int .u8 0, .string ⟨#[]⟩]) 2 24 Tryz.underlying32 hi0 hz0 hz1 hz2 rfl (by decide) _ _ _ rfl hmade ⟨g1, 0, none⟩ xs.length c1 (flatB xs) rfl hms hnews hone (by unfold maxLen; omega) (by omega) (by simp; omega) ?_)
  intro v' w5 hown' hgrow _
  obtain ⟨g', cap', rfl, hg', hlt'⟩ := World.ownsRow.form hown' (by omega)
  have B5 : Below w.heap.size w w5 := by
    refine (B3.alloc hbs3 (.cells #[] 38)).grown hgrow (by simp; omega) (fun j hj => ?_)
    have : V3.heap.size = j := by simpa [Value.ownBlock] using hj
    omega
  have S5 : ∀ j u, (flatB ys)[j]? = some u → w5.cell? ⟨g2, j, none⟩ = some u := by
    intro j u h
    refine hgrow.cell ((World.cell?_alloc_lt V3 _ ⟨g2, j, none⟩ S3.1).trans (S3.2 j u h)) ?_
    intro e
    have : g2 = V3.heap.size := by simpa [Value.ownBlock] using e
    have := S3.1
    omega
  have c0 := S5 _ _ hy0
  have c1' := S5 _ _ hy1
  have e0 := (World.ownsRow.cellAt hown' (i * 2) (by omega)).trans hx0
  have e1 := (World.ownsRow.cellAt hown' (i * 2 + 1) (by omega)).trans hx1
  have z0 := World.ownsRow.frozenAt hown' (i * 2)
  have z1 := World.ownsRow.frozenAt hown' (i * 2 + 1)
  have hst := (World.ownsRow.stored (World.ownsRow.stored hown' (i * 2) (.int .u8 kd)).1 (i * 2 + 1) (.string u)).1
  rw [FS.out] at hst
  have B6 := (B5.setCell (p := ⟨g', i * 2, none⟩) hg' (.int .u8 kd)).setCell (p := ⟨g', i * 2 + 1, none⟩) hg' (.string u)
  clear hown' hgrow S5 hnews hmade hone hms R3 S3 B3 B5
  go_wp2_with fail
  clear c0 c1' e0 e1 z0 z1
  generalize (w5.setCell ⟨g', i * 2, none⟩ (.int .u8 kd)).setCell ⟨g', i * 2 + 1, none⟩ (.string u) = W6 at hst B6 ⊢
  have hst2 : W6.ownsRow w.heap.size 38 2 (.slice (some ⟨g', 0, none⟩) zs.length cap') zs.length (flatB zs) := by rw [hzl]; exact hst
  have T6 := bits_of_row hst2 (fun e => by rw [e] at hzl; simp at hzl; omega)
  have hj := joined_any zs (some ⟨g', 0, none⟩) cap' (by omega) (by omega) W6 T6
  rw [hzl] at hj
  refine hj.mono ?_
  rintro e7 W7 ⟨rfl, rfl⟩
  clear hst hst2 hj
  go_wp2_with fail
  refine (unhide H3 _ (hE.below B6 hE.sz)).mono ?_
  rintro e8 w8 ⟨v8, rfl, hH8, hb8⟩
  obtain ⟨A8, c8, rfl, hA⟩ := hH8.bits
  have K8 := (Cells.nil w8).fault 0 0
  have B8 := (B6.trans (hb8.mono B6.size)).alloc (Nat.le_trans B6.size hb8.size) (.cells #[.int .i64 0, .int .i64 0] 34)
  have al := (Below.refl w8.heap.size w8).alloc (Nat.le_refl _) (.cells #[.int .i64 0, .int .i64 0] 34)
  have T8 := (T6.below hb8).below al
  have U8 := hA.below al
  clear hH8 hb8 hA al T6 B6
  go_wp2_with fail
  generalize w8.alloc (.cells #[.int .i64 0, .int .i64 0] 34) = V8 at K8 B8 T8 U8 ⊢
  generalize w8.heap.size = n8 at K8 ⊢
  refine (divided_any V8 (hE.below B8 hE.sz) (hD.below B8 (Nat.le_trans (by decide) hE.sz))).mono ?_
  rintro e9 w9 ⟨rfl, hb9⟩
  have K9 := K8.below hb9
  have B9 := B8.trans (hb9.mono B8.size)
  have T9 := T8.below hb9
  have U9 := U8.below hb9
  clear K8 B8 T8 U8 hb9
  have a0 := K9.get (a := ⟨n8, 0, none⟩) (v := .int .i64 0) (by simp)
  have a1 := K9.get (a := ⟨n8, 1, none⟩) (v := .int .i64 0) (by simp)
  clear K9
  go_wp2_with fail
  have hsb := sameBits_any zs A8 (some ⟨g', 0, none⟩) c8 cap' (by omega) w9 U9 T9
  rw [hzl] at hsb
  first | refine hsb.mono ?_ | (rw [hzl]; refine hsb.mono ?_)
  rintro e10 w10 ⟨rfl, m10, rfl⟩
  go_wp2_with fail
  go_ret
  exact ⟨rfl, below_drewN' B9 m10⟩
set_option maxRecDepth 100000 in
set_option maxHeartbeats 8000000 in
theorem exch_skip (s t : ByteArray) (i k : Int) (hs : s.size ≤ 1200) (ht : t.size ≤ 1200) (xs ys : List Bit) (x l y m : Nat) (hp : pcsL (bs s) = (xs, x, l)) (hq : pcsL (bs t) = (ys, y, m))
    (hc : x ≠ 0 ∨ (x = 0 ∧ y ≠ 0) ∨ (x = 0 ∧ y = 0 ∧ i < 0) ∨ (x = 0 ∧ y = 0 ∧ 0 ≤ i ∧ k < 0) ∨ (x = 0 ∧ y = 0 ∧ 0 ≤ i ∧ 0 ≤ k ∧ (xs.length : Int) ≤ i) ∨ (x = 0 ∧ y = 0 ∧ 0 ≤ i ∧ 0 ≤ k ∧ i < xs.length ∧ (ys.length : Int) ≤ k) ∨
      (x = 0 ∧ y = 0 ∧ ∃ (p q : Nat) (hp : p < xs.length) (hq : q < ys.length), i = p ∧ k = q ∧ (xs[p].1 ≠ ys[q].1 ∨ (xs[p].1 = ys[q].1 ∧ xs[p].1 < 6)))) (w : World) (hE : Env w) (hD : Db w) :
    Calls Tryz.prog 11 #[.string s, .string t, .int .i64 i, .int .i64 k] w fun e w' => e = .returned (.bool true) ∧ Below w.heap.size w w' := by
  have hs' : ¬ (1200 : Int) < s.size := by omega
  have ht' : ¬ (1200 : Int) < t.size := by omega
  have h1 := fun W hE => pieces_eq s W hE
  have h2 := fun W hE => pieces_eq t W hE
  have hxl := (pcsL_le (bs s)).1
  have hyl := (pcsL_le (bs t)).1
  rw [hp] at h1 hxl
  rw [hq] at h2 hyl
  simp only at h1 h2 hxl hyl
  have H1 := hide h1
  have H2 := hide h2
  have HCASE := Lib.hid hc
  clear h1 h2 hp hq hc
  go_enter Tryz.func11, Tryz.ntmps11
  go_wp2_with fail
  refine (unhide H1 _ hE).mono ?_
  rintro e1 w1 ⟨v1, rfl, hH1, hb1⟩
  obtain ⟨A1, c1, rfl, hA⟩ := hH1.bits
  have K1 := (Cells.nil w1).fault x l
  have B1 := hb1.alloc hb1.size (.cells #[.int .i64 x, .int .i64 l] 34)
  have P1 := hA.below ((Below.refl w1.heap.size w1).alloc (Nat.le_refl _) (.cells #[.int .i64 x, .int .i64 l] 34))
  clear hb1 hA hH1
  go_wp2_with fail
  generalize w1.alloc (.cells #[.int .i64 x, .int .i64 l] 34) = V1 at K1 B1 P1 ⊢
  generalize w1.heap.size = n1 at K1 ⊢
  refine (unhide H2 V1 (hE.below B1 hE.sz)).mono ?_
  rintro e2 w2 ⟨v2, rfl, hH2, hb2⟩
  obtain ⟨A2, c2, rfl, hA⟩ := hH2.bits
  have K2 := (K1.below hb2).fault y m
  have B2 := (B1.trans (hb2.mono B1.size)).alloc (Nat.le_trans B1.size hb2.size) (.cells #[.int .i64 y, .int .i64 m] 34)
  have al := (Below.refl w2.heap.size w2).alloc (Nat.le_refl _) (.cells #[.int .i64 y, .int .i64 m] 34)
  have P2 := (P1.below hb2).below al
  have Q2 := hA.below al
  clear hb2 hA hH2 al K1 B1 P1
  go_wp2_with fail
  generalize w2.alloc (.cells #[.int .i64 y, .int .i64 m] 34) = V2 at K2 B2 P2 Q2 ⊢
  generalize w2.heap.size = n2 at K2 ⊢
  have a0 := K2.get (a := ⟨n1, 0, none⟩) (v := .int .i64 x) (by simp)
  have b0 := K2.get (a := ⟨n2, 0, none⟩) (v := .int .i64 y) (by simp)
  clear K2
  rcases HCASE.out with hx | ⟨hx, hy⟩ | ⟨hx, hy, h3⟩ | ⟨hx, hy, h3, h4⟩ | ⟨hx, hy, h3, h4, h5⟩ | ⟨hx, hy, h3, h4, h5, h6⟩ | ⟨hx, hy, p, q, hpl, hql, hi, hk, h7 | ⟨h7, h8⟩⟩
  · have f1 : ((x : Int) != 0) = true := by simp; omega
    clear HCASE hx
    clear P2 Q2
    go_quiet (fail)
    have B3 := below_drewN' B2 nq
    generalize V2.drewN nq = V3 at B3 ⊢
    go_wp2_with fail
    refine (divided_any V3 (hE.below B3 hE.sz) (hD.below B3 (Nat.le_trans (by decide) hE.sz))).mono ?_
    rintro e3 w3 ⟨rfl, hb3⟩
    go_wp2_with fail
    go_ret
    exact ⟨rfl, B3.trans (hb3.mono B3.size)⟩
  · subst hx
    have f1 : ((y : Int) != 0) = true := by simp; omega
    clear HCASE hy
    clear P2 Q2
    go_quiet (fail)
    have B3 := below_drewN' B2 nq
    generalize V2.drewN nq = V3 at B3 ⊢
    go_wp2_with fail
    refine (divided_any V3 (hE.below B3 hE.sz) (hD.below B3 (Nat.le_trans (by decide) hE.sz))).mono ?_
    rintro e3 w3 ⟨rfl, hb3⟩
    go_wp2_with fail
    go_ret
    exact ⟨rfl, B3.trans (hb3.mono B3.size)⟩
  · subst hx
    subst hy
    have d1 : decide (i < 0) = true := decide_eq_true h3
    clear HCASE
    clear P2 Q2
    go_quiet (fail)
    have B3 := below_drewN' B2 nq
    generalize V2.drewN nq = V3 at B3 ⊢
    go_wp2_with fail
    refine (divided_any V3 (hE.below B3 hE.sz) (hD.below B3 (Nat.le_trans (by decide) hE.sz))).mono ?_
    rintro e3 w3 ⟨rfl, hb3⟩
    go_wp2_with fail
    go_ret
    exact ⟨rfl, B3.trans (hb3.mono B3.size)⟩
  · subst hx
    subst hy
    have d1 : decide (i < 0) = false := decide_eq_false (by omega)
    have d2 : decide (k < 0) = true := decide_eq_true h4
    clear HCASE
    clear P2 Q2
    go_quiet (fail)
    have B3 := below_drewN' B2 nq
    generalize V2.drewN nq = V3 at B3 ⊢
    go_wp2_with fail
    refine (divided_any V3 (hE.below B3 hE.sz) (hD.below B3 (Nat.le_trans (by decide) hE.sz))).mono ?_
    rintro e3 w3 ⟨rfl, hb3⟩
    go_wp2_with fail
    go_ret
    exact ⟨rfl, B3.trans (hb3.mono B3.size)⟩
  · subst hx
    subst hy
    have d1 : decide (i < 0) = false := decide_eq_false (by omega)
    have d2 : decide (k < 0) = false := decide_eq_false (by omega)
    have d3 : decide ((xs.length : Int) ≤ i) = true := decide_eq_true h5
    clear HCASE
    clear P2 Q2
    go_quiet (fail)
    have B3 := below_drewN' B2 nq
    generalize V2.drewN nq = V3 at B3 ⊢
    go_wp2_with fail
    refine (divided_any V3 (hE.below B3 hE.sz) (hD.below B3 (Nat.le_trans (by decide) hE.sz))).mono ?_
    rintro e3 w3 ⟨rfl, hb3⟩
    go_wp2_with fail
    go_ret
    exact ⟨rfl, B3.trans (hb3.mono B3.size)⟩
  · subst hx
    subst hy
    have d1 : decide (i < 0) = false := decide_eq_false (by omega)
    have d2 : decide (k < 0) = false := decide_eq_false (by omega)
    have d3 : decide ((xs.length : Int) ≤ i) = false := decide_eq_false (by omega)
    have d4 : decide ((ys.length : Int) ≤ k) = true := decide_eq_true h6
    clear HCASE
    clear P2 Q2
    go_quiet (fail)
    have B3 := below_drewN' B2 nq
    generalize V2.drewN nq = V3 at B3 ⊢
    go_wp2_with fail
    refine (divided_any V3 (hE.below B3 hE.sz) (hD.below B3 (Nat.le_trans (by decide) hE.sz))).mono ?_
    rintro e3 w3 ⟨rfl, hb3⟩
    go_wp2_with fail
    go_ret
    exact ⟨rfl, B3.trans (hb3.mono B3.size)⟩
  · subst hx
    subst hy
    subst hi
    subst hk
    have d1 : decide ((p : Int) < 0) = false := decide_eq_false (by omega)
    have d2 : decide ((q : Int) < 0) = false := decide_eq_false (by omega)
    have d3 : decide ((xs.length : Int) ≤ p) = false := decide_eq_false (by omega)
    have d4 : decide ((ys.length : Int) ≤ q) = false := decide_eq_false (by omega)
    obtain ⟨ga, rfl, _, p0, _⟩ := P2 p _ (List.getElem?_eq_getElem hpl)
    obtain ⟨gb, rfl, _, q0, _⟩ := Q2 q _ (List.getElem?_eq_getElem hql)
    generalize xs[p].1 = ka at p0 h7
    generalize ys[q].1 = kb at q0 h7
    have f1 : ((ka : Int) != (kb : Int)) = true := by simp; omega
    clear HCASE h7
    clear P2 Q2
    go_quiet (fail)
    have B3 := below_drewN' B2 nq
    generalize V2.drewN nq = V3 at B3 ⊢
    go_wp2_with fail
    refine (divided_any V3 (hE.below B3 hE.sz) (hD.below B3 (Nat.le_trans (by decide) hE.sz))).mono ?_
    rintro e3 w3 ⟨rfl, hb3⟩
    go_wp2_with fail
    go_ret
    exact ⟨rfl, B3.trans (hb3.mono B3.size)⟩
  · subst hx
    subst hy
    subst hi
    subst hk
    have d1 : decide ((p : Int) < 0) = false := decide_eq_false (by omega)
    have d2 : decide ((q : Int) < 0) = false := decide_eq_false (by omega)
    have d3 : decide ((xs.length : Int) ≤ p) = false := decide_eq_false (by omega)
    have d4 : decide ((ys.length : Int) ≤ q) = false := decide_eq_false (by omega)
    obtain ⟨ga, rfl, _, p0, _⟩ := P2 p _ (List.getElem?_eq_getElem hpl)
    obtain ⟨gb, rfl, _, q0, _⟩ := Q2 q _ (List.getElem?_eq_getElem hql)
    rw [← h7] at q0
    generalize xs[p].1 = ka at p0 q0 h8
    have d5 : decide ((ka : Int) < 6) = true := decide_eq_true (by omega)
    clear HCASE h7
    clear P2 Q2
    go_quiet (fail)
    have B3 := below_drewN' B2 nq
    generalize V2.drewN nq = V3 at B3 ⊢
    go_wp2_with fail
    refine (divided_any V3 (hE.below B3 hE.sz) (hD.below B3 (Nat.le_trans (by decide) hE.sz))).mono ?_
    rintro e3 w3 ⟨rfl, hb3⟩
    go_wp2_with fail
    go_ret
    exact ⟨rfl, B3.trans (hb3.mono B3.size)⟩
theorem exch_law (s t : ByteArray) (i k : Int) (w : World) (hE : Env w) (hD : Db w) :
    Calls Tryz.prog 11 #[.string s, .string t, .int .i64 i, .int .i64 k] w fun e w' => e = .returned (.bool true) ∧ Below w.heap.size w w' := by
  by_cases hs : s.size ≤ 1200
  · by_cases ht : t.size ≤ 1200
    · obtain ⟨a, hp⟩ : ∃ p, pcsL (bs s) = p := ⟨_, rfl⟩
      obtain ⟨xs, x, l⟩ := a
      obtain ⟨a, hq⟩ : ∃ p, pcsL (bs t) = p := ⟨_, rfl⟩
      obtain ⟨ys, y, m⟩ := a
      have go := exch_skip s t i k hs ht xs ys x l y m hp hq
      by_cases hx : x = 0
      · by_cases hy : y = 0
        · by_cases h3 : i < 0
          · exact go (.inr (.inr (.inl ⟨hx, hy, h3⟩))) w hE hD
          · by_cases h4 : k < 0
            · exact go (.inr (.inr (.inr (.inl ⟨hx, hy, by omega, h4⟩)))) w hE hD
            · by_cases h5 : (xs.length : Int) ≤ i
              · exact go (.inr (.inr (.inr (.inr (.inl ⟨hx, hy, by omega, by omega, h5⟩))))) w hE hD
              · by_cases h6 : (ys.length : Int) ≤ k
                · exact go (.inr (.inr (.inr (.inr (.inr (.inl ⟨hx, hy, by omega, by omega, by omega, h6⟩)))))) w hE hD
                · obtain ⟨p, rfl⟩ : ∃ n : Nat, i = n := ⟨i.toNat, by omega⟩
                  obtain ⟨q, rfl⟩ : ∃ n : Nat, k = n := ⟨k.toNat, by omega⟩
                  have hpl : p < xs.length := by omega
                  have hql : q < ys.length := by omega
                  by_cases h7 : xs[p].1 = ys[q].1
                  · by_cases h8 : xs[p].1 < 6
                    · exact go (.inr (.inr (.inr (.inr (.inr (.inr ⟨hx, hy, p, q, hpl, hql, rfl, rfl, .inr ⟨h7, h8⟩⟩)))))) w hE hD
                    · subst hx hy
                      obtain ⟨_, _, rfl⟩ := pcsL_ok hp
                      obtain ⟨_, _, rfl⟩ := pcsL_ok hq
                      exact exch_main s t p q hs ht xs ys hp hq hpl hql h7 (by omega) w hE hD
                  · exact go (.inr (.inr (.inr (.inr (.inr (.inr ⟨hx, hy, p, q, hpl, hql, rfl, rfl, .inl h7⟩)))))) w hE hD
        · exact go (.inr (.inl ⟨hx, hy⟩)) w hE hD
      · exact go (.inl hx) w hE hD
    · have hs' : ¬ (1200 : Int) < s.size := by omega
      have ht' : (1200 : Int) < t.size := by omega
      go_enter Tryz.func11, Tryz.ntmps11
      go_wp2_with fail
      refine (divided_any _ hE hD).mono ?_
      rintro e w1 ⟨rfl, hb⟩
      go_wp2_with fail
      go_ret
      exact ⟨rfl, hb⟩
  · have hs' : (1200 : Int) < s.size := by omega
    go_enter Tryz.func11, Tryz.ntmps11
    go_wp2_with fail
    refine (divided_any _ hE hD).mono ?_
    rintro e w1 ⟨rfl, hb⟩
    go_wp2_with fail
    go_ret
    exact ⟨rfl, hb⟩
end Go.Proofs.YteknngncnbfbnaaGreatDoor
