/- ScanWhole's function returns true, whatever it is called with (where the variables it reads hold what the program's text lays). -/
import Derived.Test.YteknngncnbfbnaaGreatDoorJo
import Derived.Test.YteknngncnbfbnaaGreatDoorLw
import Derived.RangeFuncNested
import Derived.RangeFuncBound
import Derived.RangeFuncCalls
import Derived.RangeFuncLeaves
import Derived.RangeFuncBox
import Derived.Shelf.Abstract
import Derived.WalkKit
import Derived.OwnWalkIn
import Derived.TacticsInMore
import Derived.LoopNIn
import Derived.LoopIn
import Derived.RecoverIn
import Derived.Maps.AppendAt
import Derived.Outline
import Derived.Handy
import Derived.Deep.LoopGhost
import Derived.RegionTactic
import Derived.ChangeAlike
import Derived.Deep.QuietTactic
import Derived.BigQuiet
import Derived.StillTailTactics
import Derived.Deep.RegionWith
import Derived.LoopTactic
import Derived.OwnWalk
import Derived.Deep.AppendLies
import Derived.Deep.DeepCutAuto
import Derived.KernelRfl
namespace Go.Proofs.YteknngncnbfbnaaGreatDoor
open Go Go.RowKit Go.Shelf
theorem toksL_app : ∀ (a b : List Bit) (L : Nat), toksL L (a ++ b) = toksL L a ++ toksL (L + nlB a) b
  | [], b, L => by simp [toksL, nlB]
  | x :: a, b, L => by
    have e : nlB (x :: a) = nl (bs x.2) + nlB a := by simp [nlB]
    have ih := toksL_app a b (L + nl (bs x.2))
    show (if x.1 ≤ 5 then (x.1, x.2, L) :: toksL (L + nl (bs x.2)) (a ++ b) else toksL (L + nl (bs x.2)) (a ++ b)) = (if x.1 ≤ 5 then (x.1, x.2, L) :: toksL (L + nl (bs x.2)) a else toksL (L + nl (bs x.2)) a) ++ _
    rw [e, ← Nat.add_assoc, ih]
    split <;> rfl
theorem nlB_cat (xs : List Bit) : nlB xs = nl (cat xs) := by
  induction xs with
  | nil => rfl
  | cons x xs ih =>
    have e : nlB (x :: xs) = nl (bs x.2) + nlB xs := by simp [nlB]
    rw [e, cat_cons, nl_app, ih]
theorem cat_split {xs : List Bit} {l : List UInt8} (h : cat xs = l) (k : Nat) : cat (xs.take k) = l.take (cat (xs.take k)).length := by
  have : l = cat (xs.take k) ++ cat (xs.drop k) := by rw [← h, ← cat_app, List.take_append_drop]
  rw [this, List.take_left]
theorem toks_at {xs : List Bit} {l : List UInt8} (h : cat xs = l) {k : Nat} (hk : k < xs.length) (h5 : xs[k].1 ≤ 5) : (toksL 1 xs)[(toksL 1 (xs.take k)).length]? = some (xs[k].1, xs[k].2, 1 + nl (l.take (cat (xs.take k)).length)) := by
  have e : xs = xs.take k ++ xs[k] :: xs.drop (k + 1) := by rw [← List.drop_eq_getElem_cons hk, List.take_append_drop]
  have e2 : toksL 1 xs = toksL 1 (xs.take k) ++ toksL (1 + nlB (xs.take k)) (xs[k] :: xs.drop (k + 1)) := by
    conv => lhs; rw [e, toksL_app]
  rw [e2, List.getElem?_append_right (Nat.le_refl _), Nat.sub_self, nlB_cat, cat_split h k, List.length_take]
  have : toksL (1 + nl (l.take (cat (xs.take k)).length)) (xs[k] :: xs.drop (k + 1)) = (xs[k].1, xs[k].2, 1 + nl (l.take (cat (xs.take k)).length)) :: _ := if_pos h5
  rw [this]
  have hle : (cat (xs.take k)).length ≤ l.length := by rw [← h]; exact cat_take_le xs k
  rw [Nat.min_eq_left hle]
  rfl
theorem toks_step {xs : List Bit} {k : Nat} (hk : k < xs.length) : (toksL 1 (xs.take (k + 1))).length = (toksL 1 (xs.take k)).length + (if xs[k].1 ≤ 5 then 1 else 0) := by
  rw [List.take_succ_eq_append_getElem hk, toksL_app, List.length_append]
  congr 1
  show (if xs[k].1 ≤ 5 then _ else toksL _ []).length = _
  split <;> rfl
theorem pcs_prev {l : List UInt8} {xs : List Bit} (h : Pcs l xs) {k : Nat} (hk : k + 1 < xs.length) : ¬ (xs[k].1 = 6 ∧ xs[k + 1].1 = 6) := by
  have hd := pcs_drop h k
  have e : xs.drop k = xs[k] :: xs[k + 1] :: xs.drop (k + 2) := by
    rw [List.drop_eq_getElem_cons (by omega), List.drop_eq_getElem_cons hk]
  rw [e] at hd
  exact pcs_blanks hd
theorem toks_take_le (xs : List Bit) (k : Nat) : (toksL 1 (xs.take k)).length ≤ (toksL 1 xs).length := by
  conv => rhs; rw [← List.take_append_drop k xs, toksL_app, List.length_append]
  omega
set_option maxRecDepth 100000 in
set_option maxHeartbeats 4000000 in
theorem whole_bad (s : ByteArray) (hs : s.size ≤ 1200) (x l : Nat) (hp : pcsL (bs s) = ([], x, l)) (hx : x ≠ 0) (w : World) (hE : Env w) (hD : Db w) : Calls Tryz.prog 8 #[.string s] w fun e w' => e = .returned (.bool true) ∧ Below w.heap.size w w' := by
  have hs' : ¬ (1200 : Int) < s.size := by omega
  have h1 := fun W hE => pieces_eq s W hE
  have h2 := fun W hE => scan_eq s W hE
  rw [hp] at h1 h2
  have H1 := hide h1
  have H2 := hide h2
  have hx' : ((x : Int) != 0) = true := by simp; omega
  clear h1 h2 hp hx
  go_enter Tryz.func8, Tryz.ntmps8
  go_wp2_with fail
  refine (unhide H1 _ hE).mono ?_
  rintro e1 w1 ⟨v1, rfl, hH1, hb1⟩
  obtain rfl := hH1.2.2 rfl
  have K1 := (Cells.nil w1).fault x l
  have B1 := hb1.alloc hb1.size (.cells #[.int .i64 x, .int .i64 l] 34)
  clear hb1 hH1
  go_wp2_with fail
  generalize w1.alloc (.cells #[.int .i64 x, .int .i64 l] 34) = V1 at K1 B1 ⊢
  generalize w1.heap.size = n1 at K1 ⊢
  refine (unhide H2 V1 (hE.below B1 hE.sz)).mono ?_
  rintro e2 w2 ⟨v2, rfl, _, hn2, hb2⟩
  obtain rfl := hn2.2 rfl
  have K2 := (K1.below hb2).fault x l
  have B2 := (B1.trans (hb2.mono B1.size)).alloc (Nat.le_trans B1.size hb2.size) (.cells #[.int .i64 x, .int .i64 l] 34)
  have a0 := K2.get (a := ⟨n1, 0, none⟩) (v := .int .i64 x) (by simp)
  have a1 := K2.get (a := ⟨n1, 1, none⟩) (v := .int .i64 l) (by simp)
  have b0 := K2.get (a := ⟨w2.heap.size, 0, none⟩) (v := .int .i64 x) (by simp)
  have b1 := K2.get (a := ⟨w2.heap.size, 1, none⟩) (v := .int .i64 l) (by simp)
  clear K1 B1 hb2 hn2
  go_wp2_with fail
  clear a0 a1 b0 b1
  generalize w2.alloc (.cells #[.int .i64 x, .int .i64 l] 34) = V2 at K2 B2 ⊢
  generalize w2.heap.size = n2 at K2 ⊢
  refine (divided_any V2 (hE.below B2 hE.sz) (hD.below B2 (Nat.le_trans (by decide) hE.sz))).mono ?_
  rintro e3 w3 ⟨rfl, hb3⟩
  have K3 := K2.below hb3
  have B3 := B2.trans (hb3.mono B2.size)
  clear K2 B2 hb3
  have a0 := K3.get (a := ⟨n1, 0, none⟩) (v := .int .i64 x) (by simp)
  have a1 := K3.get (a := ⟨n1, 1, none⟩) (v := .int .i64 l) (by simp)
  have b0 := K3.get (a := ⟨n2, 0, none⟩) (v := .int .i64 x) (by simp)
  have b1 := K3.get (a := ⟨n2, 1, none⟩) (v := .int .i64 l) (by simp)
  clear K3
  go_wp2_with fail
  go_ret
  exact ⟨rfl, B3⟩
set_option maxRecDepth 100000 in
set_option maxHeartbeats 8000000 in
theorem whole_good (s : ByteArray) (hs : s.size ≤ 1200) (xs : List Bit) (hp : pcsL (bs s) = (xs, 0, 0)) (w : World) (hE : Env w) (hD : Db w) : Calls Tryz.prog 8 #[.string s] w fun e w' => e = .returned (.bool true) ∧ Below w.heap.size w w' := by
  have hs' : ¬ (1200 : Int) < s.size := by omega
  have h1 := fun W hE => pieces_eq s W hE
  have h2 := fun W hE => scan_eq s W hE
  have hxl := (pcsL_le (bs s)).1
  rw [hp] at h1 h2 hxl
  simp only at hxl
  have px := (pcsL_ok hp).1
  have hcat := pcs_cat px
  have hcl : (cat xs).length = s.size := by rw [hcat, bs_len]
  have hms : mkS (cat xs) = s := by rw [hcat]; exact bs_ext (bs_mkS _)
  unfold ScanPost at h2
  have H1 := hide h1
  have H2 := hide h2
  have htl := Nat.le_trans (toksL_len xs 1) hxl
  have PX := Lib.hid px
  have HCAT := Lib.hid hcat
  have HAL := Lib.hid (fun x hx => pcs_alone px x hx)
  clear h1 h2 hp px hcat
  go_enter Tryz.func8, Tryz.ntmps8
  go_wp2_with fail
  refine (unhide H1 _ hE).mono ?_
  rintro e1 w1 ⟨v1, rfl, hH1, hb1⟩
  obtain ⟨A1, c1, rfl, hA⟩ := hH1.bits
  have K1 := (Cells.nil w1).fault 0 0
  have B1 := hb1.alloc hb1.size (.cells #[.int .i64 0, .int .i64 0] 34)
  have P1 := hA.below ((Below.refl w1.heap.size w1).alloc (Nat.le_refl _) (.cells #[.int .i64 0, .int .i64 0] 34))
  clear hb1 hH1 hA
  go_wp2_with fail
  generalize w1.alloc (.cells #[.int .i64 0, .int .i64 0] 34) = V1 at K1 B1 P1 ⊢
  generalize w1.heap.size = n1 at K1 ⊢
  refine (unhide H2 V1 (hE.below B1 hE.sz)).mono ?_
  rintro e2 w2 ⟨v2, rfl, hr2, hn2, hb2⟩
  obtain ⟨A2, c2, rfl, hA⟩ := toks_of hr2 hn2
  have K2 := (K1.below hb2).fault 0 0
  have B2 := (B1.trans (hb2.mono B1.size)).alloc (Nat.le_trans B1.size hb2.size) (.cells #[.int .i64 0, .int .i64 0] 34)
  have al := (Below.refl w2.heap.size w2).alloc (Nat.le_refl _) (.cells #[.int .i64 0, .int .i64 0] 34)
  have P2 := (P1.below hb2).below al
  have Q2 := hA.below al
  have a0 := K2.get (a := ⟨n1, 0, none⟩) (v := .int .i64 0) (by simp)
  have a1 := K2.get (a := ⟨n1, 1, none⟩) (v := .int .i64 0) (by simp)
  have b0 := K2.get (a := ⟨w2.heap.size, 0, none⟩) (v := .int .i64 0) (by simp)
  have b1 := K2.get (a := ⟨w2.heap.size, 1, none⟩) (v := .int .i64 0) (by simp)
  clear K1 B1 P1 hb2 hn2 hr2 hA al K2 H1 H2
  go_wp2_with fail
  clear a0 a1 b0 b1
  generalize w2.alloc (.cells #[.int .i64 0, .int .i64 0] 34) = V2 at B2 P2 Q2 ⊢
  have hj := joined_any xs A1 c1 (by omega) (by omega) V2 P2
  rw [hms] at hj
  refine hj.mono ?_
  rintro e3 w3 ⟨rfl, rfl⟩
  clear hj hms
  have HI := Lib.hid (show Bits V2 A1 xs ∧ Toks V2 A2 (toksL 1 xs) from ⟨P2, Q2⟩)
  clear P2 Q2
  go_wp2_with fail
  go_loopw [7, 8, 57] (fun a n i wr => ∃ k : Nat, k ≤ xs.length ∧ i = .int .i64 k ∧ a = .int .i64 (cat (xs.take k)).length ∧ n = .int .i64 (toksL 1 (xs.take k)).length ∧ Hid (Bits wr A1 xs ∧ Toks wr A2 (toksL 1 xs)) ∧ Below w.heap.size w wr) (fun _ _ i _ => xs.length - (intOf i).toNat)
  case atStart => exact ⟨0, Nat.zero_le _, rfl, rfl, rfl, HI, B2⟩
  case round =>
    clear HI B2
    obtain ⟨k, hk, rfl, rfl, rfl, HI, BW⟩ := hrel
    by_cases hlt : k < xs.length
    · have hgk : xs[k]? = some xs[k] := List.getElem?_eq_getElem hlt
      have hal := fun W hE => pieces_eq xs[k].2 W hE
      have hpal := pcs_pcsL (HAL.out _ (List.getElem_mem hlt)) (by have := cat_piece_le hlt; rw [bs_len]; omega)
      rw [hpal] at hal
      have HA1 := hide hal
      have hle := cat_piece_le hlt
      have HSTEP := Lib.hid (toks_step hlt)
      have HCS := Lib.hid (show (cat (xs.take (k + 1))).length = (cat (xs.take k)).length + xs[k].2.size by rw [List.take_succ_eq_append_getElem hlt, cat_snoc, List.length_append, bs_len])
      have hta := toks_at HCAT.out hlt
      have hts := toks_take_le xs (k + 1)
      rw [HSTEP.out] at hts
      have hprev : k = 0 ∨ (∃ j, k = j + 1 ∧ xs[k].1 ≠ 6) ∨ (∃ (j : Nat) (hj : j < xs.length), k = j + 1 ∧ xs[k].1 = 6 ∧ xs[j].1 ≠ 6) := by
        cases k with
        | zero => exact .inl rfl
        | succ j =>
          by_cases h6 : xs[j + 1].1 = 6
          · exact .inr (.inr ⟨j, by omega, rfl, h6, fun e => pcs_prev PX.out hlt ⟨e, h6⟩⟩)
          · exact .inr (.inl ⟨j, rfl, h6⟩)
      have hsp := fun W => spot_any s ((cat (xs.take k)).length : Nat) W
      rw [spotR_col (by omega) (by omega)] at hsp
      have HSP := hide hsp
      clear hal hpal hsp
      revert HA1 hle HSTEP HCS hta hts hprev hgk
      generalize xs[k] = y
      obtain ⟨kd, t⟩ := y
      intro hgk HA1 hle HSTEP HCS hta hts hprev
      simp only at HA1 hle HSTEP HCS hta hts hprev
      have HPREV := Lib.hid hprev
      have HTA := Lib.hid hta
      clear hprev hta
      obtain ⟨a, ha⟩ : ∃ a, (cat (xs.take k)).length = a := ⟨_, rfl⟩
      obtain ⟨n, hn⟩ : ∃ n, (toksL 1 (xs.take k)).length = n := ⟨_, rfl⟩
      rw [ha] at hle HCS HSP HTA ⊢
      rw [hn] at HSTEP hts HTA ⊢
      obtain ⟨hbits, htoks⟩ := HI.out
      obtain ⟨g, rfl, hg, c0, c1'⟩ := hbits k _ hgk
      clear ha hn hbits htoks
      go_wp2_with fail
      refine (unhide HA1 _ (hE.below BW hE.sz)).mono ?_
      rintro e4 w4 ⟨v4, rfl, hH4, hb4⟩
      have hr4 : w4.ownsRow wr.heap.size 38 2 v4 1 (flatB [(kd, t)]) := hH4.1
      obtain ⟨g4, c4, rfl, hlt4, hc4⟩ := World.ownsRow.at_ hr4 (by decide)
      have K4 := (((Cells.nil w4).add hlt4 (hc4 0 (.int .u8 kd) rfl)).add hlt4 (hc4 1 (.string t) rfl)).fault 0 0
      have B4 := (BW.trans (hb4.mono BW.size)).alloc (Nat.le_trans BW.size hb4.size) (.cells #[.int .i64 0, .int .i64 0] 34)
      have al := hb4.alloc hb4.size (.cells #[.int .i64 0, .int .i64 0] 34)
      have HI4 := Lib.hid (show Bits (w4.alloc (.cells #[.int .i64 0, .int .i64 0] 34)) (some ⟨g, 0, none⟩) xs ∧ Toks (w4.alloc (.cells #[.int .i64 0, .int .i64 0] 34)) A2 (toksL 1 xs) from ⟨HI.out.1.below al, HI.out.2.below al⟩)
      clear hr4 hH4 hlt4 hc4 hb4 al HI BW c0 c1' hg HA1
      go_wp2_with fail
      generalize w4.alloc (.cells #[.int .i64 0, .int .i64 0] 34) = V4 at K4 B4 HI4 ⊢
      generalize w4.heap.size = n4 at K4 ⊢
      have f0 := K4.get (a := ⟨n4, 0, none⟩) (v := .int .i64 0) (by simp)
      have p0 := K4.get (a := ⟨g4, 0, none⟩) (v := .int .u8 kd) (by simp)
      have p1 := K4.get (a := ⟨g4, 1, none⟩) (v := .string t) (by simp)
      obtain ⟨g', hge, hg, c0, c1'⟩ := HI4.out.1 k _ hgk
      injection hge with hge
      injection hge with hge _ _
      subst hge
      clear K4
      rcases HPREV.out with hk0 | ⟨j, hkj, hk6⟩ | ⟨j, hj, hkj, hk6, hkp⟩
      · have dk : decide ((0 : Int) < (k : Int)) = false := decide_eq_false (by omega)
        have dk2 : decide (0 < k) = false := decide_eq_false (by omega)
        clear hk0
        go_quiet (fail)
        clear f0 p0 p1
        have B5 := below_drewN' B4 nq
        have c0 : (V4.drewN nq).cell? ⟨g, k * 2, none⟩ = some (.int .u8 kd) := c0
        have c1' : (V4.drewN nq).cell? ⟨g, k * 2 + 1, none⟩ = some (.string t) := c1'
        have HI5 := Lib.hid (show Bits (V4.drewN nq) (some ⟨g, 0, none⟩) xs ∧ Toks (V4.drewN nq) A2 (toksL 1 xs) from HI4.out)
        clear HI4 B4
        generalize V4.drewN nq = V5 at B5 c0 c1' HI5 ⊢
        by_cases h5k : kd ≤ 5
        · have h6 : (kd : Int) < 6 := by omega
          have h5 : kd ≤ 5 := by omega
          rw [if_pos h5] at hts
          have hta := HTA.out h5
          obtain ⟨gt, rfl, _, t0, t1, t2⟩ := HI5.out.2 n _ hta
          simp only at t0 t1 t2
          have dn : decide (((toksL 1 xs).length : Int) ≤ n) = false := decide_eq_false (by omega)
          have dn2 : decide ((toksL 1 xs).length ≤ n) = false := decide_eq_false (by omega)
          have hnl : n < (toksL 1 xs).length := by omega
          have HST := Lib.hid (show (toksL 1 (xs.take (k + 1))).length = n + 1 by rw [HSTEP.out, if_pos h5])
          go_wp2_with fail
          refine (unhide HSP _).mono ?_
          rintro e6 w6 ⟨rfl, rfl⟩
          obtain ⟨L, hL⟩ : ∃ L, 1 + nl ((bs s).take a) = L := ⟨_, rfl⟩
          rw [hL] at t2
          rw [hL]
          clear hL hta
          go_wp2_with fail
          go_quiet (fail)
          clear t0 t1 t2 c0
          have B6 := below_drewN' B5 nq
          have c1' : (V5.drewN nq).cell? ⟨g, k * 2 + 1, none⟩ = some (.string t) := c1'
          have HI6 := Lib.hid (show Bits (V5.drewN nq) (some ⟨g, 0, none⟩) xs ∧ Toks (V5.drewN nq) (some ⟨gt, 0, none⟩) (toksL 1 xs) from HI5.out)
          clear HI5 B5
          generalize V5.drewN nq = V6 at B6 c1' HI6 ⊢
          go_wp2_with fail
          go_roundw
          case rel => exact ⟨k + 1, by omega, by go_num, by rw [HCS.out]; simp, by rw [HST.out]; simp, HI6, B6⟩
          case measure => simp [intOf]; omega
        · have h6 : ¬ (kd : Int) < 6 := by omega
          have HST := Lib.hid (show (toksL 1 (xs.take (k + 1))).length = n by rw [HSTEP.out, if_neg (by omega)]; rfl)
          go_wp2_with fail
          go_roundw
          case rel => exact ⟨k + 1, by omega, by go_num, by rw [HCS.out]; simp, by rw [HST.out], HI5, B5⟩
          case measure => simp [intOf]; omega
      · have dk : decide ((0 : Int) < (k : Int)) = true := decide_eq_true (by omega)
        have dk2 : decide (0 < k) = true := decide_eq_true (by omega)
        have k6 : ((kd : Int) == 6) = false := by simp; omega
        clear hkj
        go_quiet (fail)
        clear f0 p0 p1
        have B5 := below_drewN' B4 nq
        have c0 : (V4.drewN nq).cell? ⟨g, k * 2, none⟩ = some (.int .u8 kd) := c0
        have c1' : (V4.drewN nq).cell? ⟨g, k * 2 + 1, none⟩ = some (.string t) := c1'
        have HI5 := Lib.hid (show Bits (V4.drewN nq) (some ⟨g, 0, none⟩) xs ∧ Toks (V4.drewN nq) A2 (toksL 1 xs) from HI4.out)
        clear HI4 B4
        generalize V4.drewN nq = V5 at B5 c0 c1' HI5 ⊢
        by_cases h5k : kd ≤ 5
        · have h6 : (kd : Int) < 6 := by omega
          have h5 : kd ≤ 5 := by omega
          rw [if_pos h5] at hts
          have hta := HTA.out h5
          obtain ⟨gt, rfl, _, t0, t1, t2⟩ := HI5.out.2 n _ hta
          simp only at t0 t1 t2
          have dn : decide (((toksL 1 xs).length : Int) ≤ n) = false := decide_eq_false (by omega)
          have dn2 : decide ((toksL 1 xs).length ≤ n) = false := decide_eq_false (by omega)
          have hnl : n < (toksL 1 xs).length := by omega
          have HST := Lib.hid (show (toksL 1 (xs.take (k + 1))).length = n + 1 by rw [HSTEP.out, if_pos h5])
          go_wp2_with fail
          refine (unhide HSP _).mono ?_
          rintro e6 w6 ⟨rfl, rfl⟩
          obtain ⟨L, hL⟩ : ∃ L, 1 + nl ((bs s).take a) = L := ⟨_, rfl⟩
          rw [hL] at t2
          rw [hL]
          clear hL hta
          go_wp2_with fail
          go_quiet (fail)
          clear t0 t1 t2 c0
          have B6 := below_drewN' B5 nq
          have c1' : (V5.drewN nq).cell? ⟨g, k * 2 + 1, none⟩ = some (.string t) := c1'
          have HI6 := Lib.hid (show Bits (V5.drewN nq) (some ⟨g, 0, none⟩) xs ∧ Toks (V5.drewN nq) (some ⟨gt, 0, none⟩) (toksL 1 xs) from HI5.out)
          clear HI5 B5
          generalize V5.drewN nq = V6 at B6 c1' HI6 ⊢
          go_wp2_with fail
          go_roundw
          case rel => exact ⟨k + 1, by omega, by go_num, by rw [HCS.out]; simp, by rw [HST.out]; simp, HI6, B6⟩
          case measure => simp [intOf]; omega
        · have h6 : ¬ (kd : Int) < 6 := by omega
          have HST := Lib.hid (show (toksL 1 (xs.take (k + 1))).length = n by rw [HSTEP.out, if_neg (by omega)]; rfl)
          go_wp2_with fail
          go_roundw
          case rel => exact ⟨k + 1, by omega, by go_num, by rw [HCS.out]; simp, by rw [HST.out], HI5, B5⟩
          case measure => simp [intOf]; omega
      · have dk : decide ((0 : Int) < (k : Int)) = true := decide_eq_true (by omega)
        have dk2 : decide (0 < k) = true := decide_eq_true (by omega)
        have k6 : ((kd : Int) == 6) = true := by simp; omega
        obtain ⟨g'', hge, _, e0, _⟩ := HI4.out.1 j _ (List.getElem?_eq_getElem hj)
        injection hge with hge
        injection hge with hge _ _
        subst hge
        generalize xs[j].1 = kp at e0 hkp
        have kp6 : ((kp : Int) == 6) = false := by simp; omega
        have hjk : (k : Int) - 1 = j := by omega
        have h6n : 6 ≤ kd := by omega
        clear hkj hk6 hkp
        go_quiet (fail)
        clear e0
        clear f0 p0 p1
        have B5 := below_drewN' B4 nq
        have c0 : (V4.drewN nq).cell? ⟨g, k * 2, none⟩ = some (.int .u8 kd) := c0
        have c1' : (V4.drewN nq).cell? ⟨g, k * 2 + 1, none⟩ = some (.string t) := c1'
        have HI5 := Lib.hid (show Bits (V4.drewN nq) (some ⟨g, 0, none⟩) xs ∧ Toks (V4.drewN nq) A2 (toksL 1 xs) from HI4.out)
        clear HI4 B4
        generalize V4.drewN nq = V5 at B5 c0 c1' HI5 ⊢
        have h6 : ¬ (kd : Int) < 6 := by omega
        have HST := Lib.hid (show (toksL 1 (xs.take (k + 1))).length = n by rw [HSTEP.out, if_neg (by omega)]; rfl)
        go_wp2_with fail
        go_roundw
        case rel => exact ⟨k + 1, by omega, by go_num, by rw [HCS.out]; simp, by rw [HST.out], HI5, B5⟩
        case measure => simp [intOf]; omega
    · obtain rfl : k = xs.length := by omega
      rw [List.take_length]
      clear HI
      go_wp2_with fail
      refine (divided_any wr (hE.below BW hE.sz) (hD.below BW (Nat.le_trans (by decide) hE.sz))).mono ?_
      rintro e9 w9 ⟨rfl, hb9⟩
      go_wp2_with fail
      go_ret
      exact ⟨rfl, BW.trans (hb9.mono BW.size)⟩
set_option maxRecDepth 100000 in
theorem whole_law (s : ByteArray) (w : World) (hE : Env w) (hD : Db w) : Calls Tryz.prog 8 #[.string s] w fun e w' => e = .returned (.bool true) ∧ Below w.heap.size w w' := by
  by_cases hs : s.size ≤ 1200
  · obtain ⟨p, hp⟩ : ∃ p, pcsL (bs s) = p := ⟨_, rfl⟩
    obtain ⟨xs, x, l⟩ := p
    by_cases hx : x = 0
    · subst hx
      obtain ⟨_, _, rfl⟩ := pcsL_ok hp
      exact whole_good s hs xs hp w hE hD
    · have : xs = [] := by
        unfold pcsL at hp
        split at hp
        · injection hp with h _; exact h.symm
        · split at hp
          · injection hp with _ h; injection h with h _; exact absurd h.symm hx
          · injection hp with h _; exact h.symm
      subst this
      exact whole_bad s hs x l hp hx w hE hD
  · have hs' : (1200 : Int) < s.size := by omega
    go_enter Tryz.func8, Tryz.ntmps8
    go_wp2_with fail
    refine (divided_any _ hE hD).mono ?_
    rintro e w1 ⟨rfl, hb⟩
    go_wp2_with fail
    go_ret
    exact ⟨rfl, hb⟩
end Go.Proofs.YteknngncnbfbnaaGreatDoor
