/- Part 4 of 53: the texts Nm, Ao, Mk, Rx, Ir, Fx, Dg, one behind the other. -/
import Derived.Test.YteaokkaidcbdlaaGreatDoorM2
import Derived.Test.YteaokkaidcbdlaaGreatDoorM0
import Derived.Maps.Keyed
import Derived.Maps.Own
import Derived.Laws.EntriesVeiled
import Derived.Deep.Quiet
import Derived.Lib.Case
import Derived.Lib.Repeat
import Derived.Test.YteaokkaidcbdlaaGreatDoorM1
namespace Go.Proofs.YteaokkaidcbdlaaGreatDoor
open Go Go.RowKit Go.Shelf
theorem clo276 {x p : ByteArray} {va vr : Value} {r : Int} (w : World) : Calls Tryz.prog 276 #[.agg #[.string x, va, .int .i64 r, vr, .string p]] w fun e w' => e = .returned (.string x) ∧ w' = w.alloc (.cells #[.string x, va, .int .i64 r, vr, .string p] 74) := by
 go_enter Tryz.func276, Tryz.ntmps276
 go_wp2
 go_ret
 exact ⟨rfl, rfl⟩
set_option maxRecDepth 100000 in
set_option maxHeartbeats 4000000 in
theorem namedM_any (v : Value) (ps : List MethD) (W0 : World) (hP : SliceOf 5 (MethAt W0) v ps) (hz : ∀ p ∈ ps, p.name.size ≤ maxLen) (W : World) (hB0 : Below W0.heap.size W0 W) :
    Calls Tryz.prog 275 #[v, .func (.func 276) #[] #[]] W fun e w' => e = .returned (.bool (namedB (ps.map (·.name)))) ∧ Below W.heap.size W w' := by
  obtain ⟨o, cap, rfl⟩ := hP.form
  obtain ⟨_, hcm, hlc, hat⟩ := hP.at
  by_cases h8 : ps.length ≤ 8
  ·have HN := Lib.hid (show namedB (ps.map (·.name)) = namedFrom [] (ps.map (·.name)) by unfold namedB; simp [h8])
   have hlm : ps.length ≤ 9223372036854775807 := by omega
   clear hP hcm hlc
   go_enter Tryz.func275, Tryz.ntmps275
   go_wp2
   go_loopw [5, 14] (fun vn i wr => ∃ k : Nat, k ≤ ps.length ∧ i = .int .i64 k ∧ wr.ownsRow W.heap.size 9 1 vn k ((ps.take k).map fun p => .string p.name) ∧ Below W.heap.size W wr ∧
    Hid (namedFrom [] (ps.map (·.name)) = namedFrom ((ps.take k).map (·.name)) ((ps.drop k).map (·.name)))) (fun _ i _ => ps.length - (intOf i).toNat)
   case atStart => exact ⟨0, Nat.zero_le _, rfl, World.ownsRow_nil _ _ _ _, Below.refl _ _, Lib.hid rfl⟩
   case round =>
    obtain ⟨k, hk, rfl, hown, hbw, HF⟩ := hrel
    by_cases hlt : k < ps.length
    ·have hpk : ps[k]? = some ps[k] := List.getElem?_eq_getElem hlt
     obtain ⟨b, off, rfl, hcell⟩ := hat k ps[k] hpk
     have hbel : Below W0.heap.size W0 wr := hB0.trans (hbw.mono hB0.size)
     have hhold := Holds.below hbel
     have HP := Lib.hid (show (ps.drop k).map (·.name) = ps[k].name :: (ps.drop (k + 1)).map (·.name) by rw [List.drop_eq_getElem_cons hlt]; rfl)
     have HT := Lib.hid (List.take_succ_eq_append_getElem hlt)
     have hsz := hz ps[k] (List.getElem_mem hlt)
     have hlt' : (k : Int) < ps.length := by omega
     have hbs := hbw.size
     obtain ⟨va, vr, hv, e0, e1, e2, e3, e4⟩ := hcell
     obtain ⟨oa, ca, rfl⟩ := hv.args.form
     obtain ⟨orr, cr, rfl⟩ := hv.raises.form
     have d0 : wr.cell? ⟨b, off + k * 5, none⟩ = some (.string ps[k].name) := hhold _ _ e0
     have d1 : wr.cell? ⟨b, off + k * 5 + 1, none⟩ = some (.slice oa ps[k].args.length ca) := hhold _ _ e1
     have d2 : wr.cell? ⟨b, off + k * 5 + 2, none⟩ = some (.int .i64 ps[k].result) := hhold _ _ e2
     have d3 : wr.cell? ⟨b, off + k * 5 + 3, none⟩ = some (.slice orr ps[k].raises.length cr) := hhold _ _ e3
     have d4 : wr.cell? ⟨b, off + k * 5 + 4, none⟩ = some (.string ps[k].proc) := hhold _ _ e4
     have hnm := isName_any ps[k].name hsz
     clear hat hv e0 e1 e2 e3 e4 hbel hpk hhold hz hsz
     have BL := (hbw.alloc hbs (.cells #[.string ps[k].name, .slice oa ps[k].args.length ca, .int .i64 ps[k].result, .slice orr ps[k].raises.length cr, .string ps[k].proc] 74)).alloc (Nat.le_trans hbs (by simp)) (.cells #[.string ps[k].name, .slice oa ps[k].args.length ca, .int .i64 ps[k].result, .slice orr ps[k].raises.length cr, .string ps[k].proc] 74)
     have RO := (hown.alloc (.cells #[.string ps[k].name, .slice oa ps[k].args.length ca, .int .i64 ps[k].result, .slice orr ps[k].raises.length cr, .string ps[k].proc] 74)).alloc (.cells #[.string ps[k].name, .slice oa ps[k].args.length ca, .int .i64 ps[k].result, .slice orr ps[k].raises.length cr, .string ps[k].proc] 74)
     have hlen : ((ps.take k).map fun p => (Value.string p.name)).length = k := by simp; omega
     have hlen2 : ((ps.take k).map (·.name)).length = k := by simp; omega
     have hmap : ((ps.take k).map fun p => (Value.string p.name)) = ((ps.take k).map (·.name)).map Value.string := by rw [List.map_map]; rfl
     cases hnb : nameB (bs ps[k].name) with
     | false =>
       rw [hnb] at hnm
       have HM := hide hnm
       have HX := Lib.hid (show namedFrom [] (ps.map (·.name)) = false by rw [HF.out, HP.out]; rw [namedFrom_cons, hnb]; rfl)
       clear hnm hnb hown HF HP HT RO hmap hlen hlen2
       go_wp2_with (first | (go_at_call 276; refine (clo276 _).mono ?_; rintro e w4 ⟨rfl, rfl⟩) | (go_at_call 19; refine (unhide HM _).mono ?_; rintro e w4 ⟨rfl, rfl⟩))
       go_ret
       exact ⟨ret_bool (by rw [HN.out, HX.out]), BL⟩
     | true =>
       rw [hnb] at hnm
       have HM := hide hnm
       have HX := Lib.hid (show namedFrom [] (ps.map (·.name)) = (!Lib.containsS ((ps.take k).map (·.name)) ps[k].name && namedFrom ((ps.take k).map (·.name) ++ [ps[k].name]) ((ps.drop (k + 1)).map (·.name))) by
        rw [HF.out, HP.out]; rw [namedFrom_cons, hnb]; rfl)
       have HC : Hide (∀ w', w' = ((wr.alloc (.cells #[.string ps[k].name, .slice oa ps[k].args.length ca, .int .i64 ps[k].result, .slice orr ps[k].raises.length cr, .string ps[k].proc] 74)).alloc (.cells #[.string ps[k].name, .slice oa ps[k].args.length ca, .int .i64 ps[k].result, .slice orr ps[k].raises.length cr, .string ps[k].proc] 74)) → Calls Tryz.prog 281 #[u5, .string ps[k].name] w' fun e w2 => e = .returned (.bool (Lib.containsS ((ps.take k).map (·.name)) ps[k].name)) ∧ w2 = w') := by
        rintro w' rfl
        rcases hown.2 with ⟨rfl, hk0⟩ | ⟨g, cap2, cur, rfl, hg⟩
        ·subst hk0
         exact Tryz.slices_Contains_string_empty none 0 _ _
        ·have := Tryz.slices_Contains_string g 0 k cap2 ((ps.take k).map (·.name)) ps[k].name ((wr.alloc (.cells #[.string ps[k].name, .slice oa ps[k].args.length ca, .int .i64 ps[k].result, .slice orr ps[k].raises.length cr, .string ps[k].proc] 74)).alloc (.cells #[.string ps[k].name, .slice oa ps[k].args.length ca, .int .i64 ps[k].result, .slice orr ps[k].raises.length cr, .string ps[k].proc] 74)) (by omega) (by omega) (fun j hj => by
           rw [Nat.zero_add, Row1.cells RO j (by omega), hmap]; exact strs_get _ _ hj)
         rwa [List.take_of_length_le (by omega)] at this
       clear hnm hnb HF HP hmap
       generalize hcb : Lib.containsS ((ps.take k).map (·.name)) ps[k].name = cb at HX HC
       clear hcb
       cases cb with
       | true =>
         clear hown RO hlen hlen2 HT
         go_wp2_with (first | (go_at_call 276; refine (clo276 _).mono ?_; rintro e w4 ⟨rfl, rfl⟩) | (go_at_call 19; refine (unhide HM _).mono ?_; rintro e w4 ⟨rfl, rfl⟩) | (go_at_call 281; refine (unhide HC _ rfl).mono ?_; rintro e w4 ⟨rfl, rfl⟩))
         go_ret
         exact ⟨ret_bool (by rw [HN.out, HX.out]; rfl), BL⟩
       | false =>
         have RO2 := RO.alloc (.cells #[.string ps[k].name] 9)
         have BL2 := BL.alloc BL.size (.cells #[.string ps[k].name] 9)
         have HL := Lib.hid hlen
         clear hown RO BL hlen2 hlen
         go_wp2_with (first | (go_at_call 276; refine (clo276 _).mono ?_; rintro e w4 ⟨rfl, rfl⟩) | (go_at_call 19; refine (unhide HM _).mono ?_; rintro e w4 ⟨rfl, rfl⟩) | (go_at_call 281; refine (unhide HC _ rfl).mono ?_; rintro e w4 ⟨rfl, rfl⟩) | (at_builtin; refine app_one _ _ 70 9 (.string ⟨#[]⟩) 16 info9 Tryz.underlying70 rfl (by decide) rfl rfl W.heap.size _ ((ps.take k).map fun p => .string p.name) rfl (by rw [HL.out]; exact RO2) _ (.string ps[k].name) rfl ?c1 rfl (by rw [HL.out]; omega) BL2.size ?_))
         case c1 =>
          have hb := (Blk.new ((wr.alloc (.cells #[.string ps[k].name, .slice oa ps[k].args.length ca, .int .i64 ps[k].result, .slice orr ps[k].raises.length cr, .string ps[k].proc] 74)).alloc (.cells #[.string ps[k].name, .slice oa ps[k].args.length ca, .int .i64 ps[k].result, .slice orr ps[k].raises.length cr, .string ps[k].proc] 74)) [.string ps[k].name] 9).cell 0
          rw [World.size_alloc, World.size_alloc] at hb
          exact hb
         intro g cap2 w5 hown' _ hbl
         have BL3 := hbl _ _ BL2 (Nat.le_refl _)
         clear BL2 RO2 hbl
         go_wp2
         go_roundw
         case rel => exact ⟨k + 1, by omega, by go_num, by rw [HT.out, List.map_append, List.map_take]; exact hown', BL3, Lib.hid (by rw [HX.out, HT.out, List.map_append]; rfl)⟩
         case measure => simp [intOf]; omega
    ·obtain rfl : k = ps.length := by omega
     have HX := Lib.hid (show namedFrom [] (ps.map (·.name)) = true by rw [HF.out, List.drop_length]; rfl)
     go_wp2
     go_ret
     exact ⟨ret_bool (by rw [HN.out, HX.out]), hbw⟩
  ·have HN := Lib.hid (show namedB (ps.map (·.name)) = false by unfold namedB; simp [h8])
   have h8' : (8 : Int) < ps.length := by omega
   clear hP hat
   go_enter Tryz.func275, Tryz.ntmps275
   go_wp2
   go_ret
   exact ⟨ret_bool (by rw [HN.out]), Below.refl _ _⟩
end Go.Proofs.YteaokkaidcbdlaaGreatDoor

namespace Go.Proofs.YteaokkaidcbdlaaGreatDoor
open Go Go.RowKit Go.Shelf
open Go.Maps (Keyed)
section
variable {K : Type}
def lookA [DecidableEq K] (L : List (K × Value)) (k : K) : Option Value := (L.find? (fun p => decide (p.1 = k))).map (·.2)
def putA [DecidableEq K] (L : List (K × Value)) (k : K) (v : Value) : List (K × Value) := if k ∈ L.map (·.1) then L.map (fun p => if p.1 = k then (p.1, v) else p) else L ++ [(k, v)]
theorem lookA_none [DecidableEq K] {L : List (K × Value)} {k : K} (h : k ∉ L.map (·.1)) : lookA L k = none := by
 unfold lookA
 rw [Option.map_eq_none_iff, List.find?_eq_none]
 intro p hp
 simp only [decide_eq_true_eq]
 intro e; exact h (e ▸ List.mem_map_of_mem hp)
theorem lookA_mem [DecidableEq K] {L : List (K × Value)} {k : K} {v : Value} (hn : (L.map (·.1)).Nodup) (h : (k, v) ∈ L) : lookA L k = some v := by
 induction L with
 | nil => simp at h
 | cons p L ih =>
   rw [List.map_cons, List.nodup_cons] at hn
   unfold lookA
   rw [List.find?_cons]
   rcases List.mem_cons.1 h with rfl | h'
   ·simp
   ·have hne : p.1 ≠ k := fun e => hn.1 (e ▸ List.mem_map_of_mem (f := (·.1)) h')
    simp only [hne, decide_false]
    exact ih hn.2 h'
theorem putA_new [DecidableEq K] {L : List (K × Value)} {k : K} {v : Value} (h : k ∉ L.map (·.1)) : putA L k v = L ++ [(k, v)] := by unfold putA; rw [if_neg h]
structure AMap (w : World) (b : Nat) (kt : TypeId) (enc : K → Value) (L : List (K × Value)) : Prop where
 at' : ∃ es clock, w.heap[b]? = some (.map es clock) ∧ es.toList.map (fun e : MapEntry => (e.key, e.val)) = L.map (fun p : K × Value => (enc p.1, p.2))
 nodup : (L.map (·.1)).Nodup
 keys : ∀ p ∈ L, ∃ l, keyOf Tryz.prog kt (enc p.1) = some l
theorem AMap.lt {w : World} {b : Nat} {kt : TypeId} {enc : K → Value} {L : List (K × Value)} (h : AMap w b kt enc L) : b < w.heap.size := by
 obtain ⟨es, clock, hb, _⟩ := h.at'
 exact (Array.getElem?_eq_some_iff.1 hb).1
theorem AMap.made (w : World) (kt : TypeId) (enc : K → Value) : AMap (w.alloc (.map #[] 0)) w.heap.size kt enc [] :=
 ⟨⟨#[], 0, (MapKept.heap_alloc w _).1, rfl⟩, List.nodup_nil, fun p h => by simp at h⟩
theorem AMap.block {w w' : World} {b : Nat} {kt : TypeId} {enc : K → Value} {L : List (K × Value)} (h : AMap w b kt enc L) (hb : w'.heap[b]? = w.heap[b]?) : AMap w' b kt enc L := by
 obtain ⟨es, clock, h1, h2⟩ := h.at'
 exact ⟨⟨es, clock, hb.trans h1, h2⟩, h.nodup, h.keys⟩
theorem AMap.kept {w w' : World} {b : Nat} {kt : TypeId} {enc : K → Value} {L : List (K × Value)} {row : Option Nat} (h : AMap w b kt enc L) (hg : w.grownBy w' row) (hne : some b ≠ row) : AMap w' b kt enc L :=
 h.block (hg.block b h.lt hne)
theorem AMap.alloc {w : World} {b : Nat} {kt : TypeId} {enc : K → Value} {L : List (K × Value)} (h : AMap w b kt enc L) (o : Obj) : AMap (w.alloc o) b kt enc L := h.block (Below.heap_alloc _ _ _ h.lt)
theorem AMap.below {w w' : World} {b B : Nat} {kt : TypeId} {enc : K → Value} {L : List (K × Value)} (h : AMap w b kt enc L) (k : Below B w w') (hlt : b < B) : AMap w' b kt enc L := h.block (k.block b hlt)
theorem AMap.set {w : World} {b c i : Nat} {kt : TypeId} {enc : K → Value} {L : List (K × Value)} (h : AMap w b kt enc L) (v : Value) (hne : b ≠ c) : AMap (w.setCell ⟨c, i, none⟩ v) b kt enc L := by
 refine h.block ?_
 show (w.heap.modify c _)[b]? = _
 rw [Array.getElem?_modify, if_neg (by omega)]
theorem find_own {w : World} {kt : TypeId} (KK : Keyed Tryz.prog kt) {enc : K → Value} (hinj : ∀ x y, enc x = enc y → x = y) {L : List (K × Value)} (_hnd : (L.map (·.1)).Nodup) (hks : ∀ p ∈ L, ∃ l, keyOf Tryz.prog kt (enc p.1) = some l)
    {es : Array MapEntry} (he : es.toList.map (fun e : MapEntry => (e.key, e.val)) = L.map (fun p : K × Value => (enc p.1, p.2))) {k : K} {kl : Lit} (hk : keyOf Tryz.prog kt (enc k) = some kl) :
    ((Instr.findKey kt (enc k) es.toList).run Tryz.prog w = .ok none w ∧ k ∉ L.map (·.1)) ∨
    ∃ j v, (Instr.findKey kt (enc k) es.toList).run Tryz.prog w = .ok (some (j, v)) w ∧ L[j]? = some (k, v) ∧ (∃ e, es.toList[j]? = some e ∧ e.key = enc k ∧ e.val = v) := by
  have hlen : es.toList.length = L.length := by have := congrArg List.length he; simpa using this
  have hat : ∀ (j : Nat) (e : MapEntry), es.toList[j]? = some e → ∃ p, L[j]? = some p ∧ e.key = enc p.1 ∧ e.val = p.2 := by
   intro j e hj
   have h1 : (es.toList.map (fun e : MapEntry => (e.key, e.val)))[j]? = some (e.key, e.val) := by rw [List.getElem?_map, hj]; rfl
   rw [he, List.getElem?_map] at h1
   cases hp : L[j]? with
   | none => rw [hp] at h1; cases h1
   | some p =>
     rw [hp] at h1
     simp only [Option.map_some, Option.some.injEq, Prod.mk.injEq] at h1
     exact ⟨p, rfl, h1.1.symm, h1.2.symm⟩
  have hkeys : ∀ e ∈ es.toList, ∃ l, keyOf Tryz.prog kt e.key = some l := by
   intro e hm
   obtain ⟨j, hj⟩ := List.getElem?_of_mem hm
   obtain ⟨p, hp, h1, _⟩ := hat j e hj
   rw [h1]; exact hks p (List.mem_of_getElem? hp)
  rcases KK.find w hk es.toList hkeys with ⟨h1, h2⟩ | ⟨j, e0, h1, h2, h3⟩
  ·refine .inl ⟨h1, fun hm => ?_⟩
   obtain ⟨p, hp, rfl⟩ := List.mem_map.1 hm
   obtain ⟨j, hj⟩ := List.getElem?_of_mem hp
   have hlt : j < es.toList.length := by rw [hlen]; exact (List.getElem?_eq_some_iff.1 hj).1
   obtain ⟨q, hq, a1, _⟩ := hat j _ (List.getElem?_eq_getElem hlt)
   rw [hj] at hq; cases hq
   exact h2 _ (List.getElem_mem hlt) a1
  ·obtain ⟨q, hq, a1, a2⟩ := hat j e0 h2
   have hqk : q.1 = k := hinj _ _ (a1.symm.trans h3)
   refine .inr ⟨j, e0.val, h1, ?_, e0, h2, h3, rfl⟩
   rw [hq, a2, ← hqk]
theorem AMap.lookup [DecidableEq K] {w : World} {b t e : Nat} {kt : TypeId} {enc : K → Value} {L : List (K × Value)} (h : AMap w b kt enc L) (KK : Keyed Tryz.prog kt) (hinj : ∀ x y, enc x = enc y → x = y) (ht : Tryz.prog.underlying t = some (.map kt e))
    {z : Value} (hz : (zeroValue e).run Tryz.prog w = .ok z w) (c : Bool) {k : K} {kl : Lit} (hk : keyOf Tryz.prog kt (enc k) = some kl) :
    (Instr.lookup t (.map (some b)) (enc k) c).run Tryz.prog w = .ok (if c then .tuple #[(lookA L k).getD z, .bool (lookA L k).isSome] else (lookA L k).getD z) w := by
  obtain ⟨es, clock, hb, he⟩ := h.at'
  rcases find_own (w := w) KK hinj h.nodup h.keys he hk with ⟨h1, h2⟩ | ⟨j, v, h1, h2, _⟩
  ·rw [lookA_none h2]
   simp [Instr.lookup, run_underlying ht, MapKept.run_getObj_map hb, KK.check w _ hk, h1, hz, Result.andThen]
  ·rw [lookA_mem h.nodup (List.mem_of_getElem? h2)]
   simp [Instr.lookup, run_underlying ht, MapKept.run_getObj_map hb, KK.check w _ hk, h1, Result.andThen]
theorem putA_keys [DecidableEq K] {L : List (K × Value)} {k : K} {v : Value} : (putA L k v).map (·.1) = if k ∈ L.map (·.1) then L.map (·.1) else L.map (·.1) ++ [k] := by
 unfold putA
 split
 ·rw [List.map_map]
  apply List.map_congr_left
  intro p _
  simp only [Function.comp]
  split <;> rfl
 ·simp
theorem AMap.update [DecidableEq K] {w : World} {b t e : Nat} {kt : TypeId} {enc : K → Value} {L : List (K × Value)} (h : AMap w b kt enc L) (KK : Keyed Tryz.prog kt) (hinj : ∀ x y, enc x = enc y → x = y) (ht : Tryz.prog.underlying t = some (.map kt e))
    {k : K} {kl : Lit} (hk : keyOf Tryz.prog kt (enc k) = some kl) (v : Value) :
    ∃ w', (Instr.mapUpdate t (.map (some b)) (enc k) v).run Tryz.prog w = .ok () w' ∧ AMap w' b kt enc (putA L k v) ∧ w.grownBy w' (some b) := by
  obtain ⟨es, clock, hb, he⟩ := h.at'
  have hkeys' : ∀ p ∈ putA L k v, ∃ l, keyOf Tryz.prog kt (enc p.1) = some l := by
   intro p hp
   have h1 : p.1 ∈ (putA L k v).map (·.1) := List.mem_map_of_mem hp
   rw [putA_keys] at h1
   split at h1
   ·obtain ⟨q, hq, e1⟩ := List.mem_map.1 h1
    rw [← e1]; exact h.keys q hq
   ·rcases List.mem_append.1 h1 with h1 | h1
    ·obtain ⟨q, hq, e1⟩ := List.mem_map.1 h1
     rw [← e1]; exact h.keys q hq
    ·rw [List.mem_singleton.1 h1]; exact ⟨_, hk⟩
  have hnd' : ((putA L k v).map (·.1)).Nodup := by
   rw [putA_keys]
   split
   ·exact h.nodup
   ·rename_i hn
    rw [List.nodup_append]
    exact ⟨h.nodup, List.nodup_cons.2 ⟨by simp, List.nodup_nil⟩, fun a ha b hb e1 => by rw [List.mem_singleton.1 hb] at e1; exact hn (e1 ▸ ha)⟩
  have hgr : ∀ o, w.grownBy (ChangeMaps.setBlock w b o) (some b) := fun o => ⟨rfl, rfl, rfl, by simp [ChangeMaps.setBlock], fun i _ hi => ChangeMaps.heap_setBlock_other hb _ (fun e => hi (by rw [e]))⟩
  rcases find_own (w := w) KK hinj h.nodup h.keys he hk with ⟨h1, h2⟩ | ⟨j, u, h1, h2, e0, h3, h4, h5⟩
  ·refine ⟨_, by simp [Instr.mapUpdate, run_underlying ht, MapKept.run_getObj_map hb, KK.check w false hk, h1, MapKept.run_setObj_map _ hb, Result.andThen]; rfl, ⟨⟨es.push ⟨enc k, v, clock⟩, clock + 1, ChangeMaps.heap_setBlock_same hb _, ?_⟩, hnd', hkeys'⟩, hgr _⟩
   rw [putA_new h2, Array.toList_push, List.map_append, he]; simp
  ·have hj : j < es.size := by have := (List.getElem?_eq_some_iff.1 h3).1; simpa using this
   have hst := KK.stays w hk
   have hkj : ((es[j]?).map (·.key)).getD (enc k) = enc k := by
    have : es[j]? = some e0 := by simpa using h3
    rw [this]; exact h4
   refine ⟨_, by simp only [Instr.mapUpdate, Sem.run_bind, run_underlying ht, MapKept.run_getObj_map hb, KK.check w false hk, h1, Result.andThen, hkj, hst, MapKept.run_setObj_map _ hb]; rfl, ⟨⟨es.modify j fun e => { e with key := enc k, val := v }, clock, ChangeMaps.heap_setBlock_same hb _, ?_⟩, hnd', hkeys'⟩, hgr _⟩
   unfold putA
   have hmem : k ∈ L.map (·.1) := by
    have := List.mem_of_getElem? h2
    exact List.mem_map.2 ⟨_, this, rfl⟩
   rw [if_pos hmem]
   apply List.ext_getElem?
   intro i
   have hei : ∀ i : Nat, (es.toList[i]?).map (fun e : MapEntry => (e.key, e.val)) = (L[i]?).map (fun p : K × Value => (enc p.1, p.2)) := fun i => by
    have := congrArg (fun l : List (Value × Value) => l[i]?) he
    simpa using this
   rw [List.getElem?_map, List.getElem?_map, List.getElem?_map, Array.getElem?_toList, Array.getElem?_modify]
   by_cases hij : j = i
   ·subst hij
    have : es[j]? = some e0 := by simpa using h3
    simp [this, h2]
   ·rw [if_neg hij]
    have h6 := hei i
    rw [Array.getElem?_toList] at h6
    rw [h6]
    cases hLi : L[i]? with
    | none => rfl
    | some p =>
      have hpk : p.1 ≠ k := by
       intro e1
       obtain ⟨hjl, e2⟩ := List.getElem?_eq_some_iff.1 h2
       obtain ⟨hil, e3⟩ := List.getElem?_eq_some_iff.1 hLi
       have hpw := List.pairwise_iff_getElem.1 h.nodup
       rcases Nat.lt_or_ge i j with hlt | hge
       ·exact hpw i j (by simpa using hil) (by simpa using hjl) hlt (by simp [e2, e3, e1])
       ·exact hpw j i (by simpa using hjl) (by simpa using hil) (by omega) (by simp [e2, e3, e1])
      simp [hpk]
end
end Go.Proofs.YteaokkaidcbdlaaGreatDoor

namespace Go.Proofs.YteaokkaidcbdlaaGreatDoor
open Go Go.RowKit Go.Shelf
def marks (ms : List Nat) : List Deferred := ms.map fun D => { target := .collected D, args := #[] }
def shut (w : World) (ms : List Nat) : World := ms.foldl (fun w D => w.putObj D (.deferred none)) w
structure Open' (w : World) (B : Nat) (ms : List Nat) : Prop where
 at' : ∀ D ∈ ms, w.heap[D]? = some (.deferred (some []))
 ge : ∀ D ∈ ms, B ≤ D
 nodup : ms.Nodup
theorem Open'.nil (w : World) (B : Nat) : Open' w B [] := ⟨fun _ h => by simp at h, fun _ h => by simp at h, List.nodup_nil⟩
theorem Open'.keeps {w w' : World} {B : Nat} {ms : List Nat} (h : Open' w B ms) (hk : ∀ D ∈ ms, w'.heap[D]? = w.heap[D]?) : Open' w' B ms := ⟨fun D hD => (hk D hD).trans (h.at' D hD), h.ge, h.nodup⟩
theorem Open'.below {w w' : World} {B : Nat} {ms : List Nat} (h : Open' w B ms) (hb : Below w.heap.size w w') : Open' w' B ms := h.keeps fun D hD => hb.block D (Array.getElem?_eq_some_iff.1 (h.at' D hD)).1
theorem Open'.cons {w : World} {B D : Nat} {ms : List Nat} (h : Open' w B ms) (hD : w.heap[D]? = some (.deferred (some []))) (hg : B ≤ D) (hn : D ∉ ms) : Open' w B (D :: ms) :=
 ⟨fun E hE => by rcases List.mem_cons.1 hE with rfl | hE; exact hD; exact h.at' E hE, fun E hE => by rcases List.mem_cons.1 hE with rfl | hE; exact hg; exact h.ge E hE, List.nodup_cons.2 ⟨hn, h.nodup⟩⟩
theorem Open'.grown {w w' : World} {B : Nat} {ms : List Nat} {row : Option Nat} (h : Open' w B ms) (hg : w.grownBy w' row) (hr : ∀ r, row = some r → ∃ o, w.heap[r]? = some o ∧ ∀ ds, o ≠ .deferred ds) : Open' w' B ms :=
 h.keeps fun D hD => hg.block D (Array.getElem?_eq_some_iff.1 (h.at' D hD)).1 (fun e => by
  obtain ⟨o, ho, hne⟩ := hr D e.symm
  have := h.at' D hD
  rw [ho] at this; cases this
  exact hne _ rfl)
theorem shut_row {base : Nat} {e : TypeId} {sz n : Nat} {v : Value} {xs : List Value} : ∀ (ms : List Nat) (w : World), (∀ D ∈ ms, w.heap[D]? = some (.deferred (some []))) → ms.Nodup → w.ownsRow base e sz v n xs → (shut w ms).ownsRow base e sz v n xs
 | [], w, _, _, h => h
 | D :: ms, w, hm, hn, h => by
   have hD := hm D (by simp)
   refine shut_row ms _ (fun E hE => ?_) (List.nodup_cons.1 hn).2 (ownsRow_putObj h _ hD rfl)
   have hne : D ≠ E := fun e => (List.nodup_cons.1 hn).1 (e ▸ hE)
   exact (World.putObj_heap_other (by omega)).trans (hm E (by simp [hE]))
theorem shut_below {B : Nat} {w0 : World} (hB : B ≤ w0.heap.size) : ∀ (ms : List Nat) (w : World), (∀ D ∈ ms, B ≤ D) → w0.heap.size ≤ w.heap.size → Below B w0 w → Below B w0 (shut w ms)
 | [], _, _, _, h => h
 | D :: ms, w, hm, hs, h => by
   refine shut_below hB ms _ (fun E hE => hm E (by simp [hE])) ?_ (h.grown (grownBy_putObj' w D _) (Nat.le_trans hB hs) (fun j e => by cases e; exact hm D (by simp)))
   exact Nat.le_trans hs (by simp [World.putObj])
theorem leaves_marks {F : Fence} {n : Nat} {fn : Func} {tmps : Array Value} {R : Ending → World → Prop} : ∀ (ms : List Nat) (w : World), (∀ D ∈ ms, w.heap[D]? = some (.deferred (some []))) → ms.Nodup →
    LeavesIn F n Tryz.prog fn tmps R [] .returning (shut w ms) → LeavesInM F n Tryz.prog fn tmps R (marks ms) .returning w
  | [], w, _, _, h => h
  | D :: ms, w, hm, hn, h => by
    refine ⟨by simp, .inl ⟨D, _, rfl, run_takeDeferred (hm D (by simp)), leaves_marks ms _ (fun E hE => ?_) (List.nodup_cons.1 hn).2 h⟩⟩
    have hne : D ≠ E := fun e => (List.nodup_cons.1 hn).1 (e ▸ hE)
    exact (World.putObj_heap_other (by omega)).trans (hm E (by simp [hE]))
end Go.Proofs.YteaokkaidcbdlaaGreatDoor

namespace Go.Proofs.YteaokkaidcbdlaaGreatDoor
open Go Go.RowKit Go.Shelf
attribute [local go_sem] Oper.semAt_some
def xPost {α : Type} (B : Nat) (Kp : World → World → Prop) (I : List α → World → Prop) (Ix : Code → List α → World → Prop) (p : List α) (W : World) (e : Exit) (W' : World) : Prop :=
 match e with
 | .normal => KeepsFrom B W W' ∧ Kp W W' ∧ I p W'
 | .ret => KeepsFrom B W W' ∧ Ix .ret p W'
 | .exit id => KeepsFrom B W W' ∧ Ix (.exit id) p W'
 | _ => False
theorem wpIn_rangeGivesX {α : Type} {g : Operand} {ps : Array Tmp} {assign body : Code} {Q : Exit → Act → World → Prop} {a : Act} {w1 : World} {gf : Nat} {lb : Array Value} (encs : α → Array Value) (L : List α)
    (hg : a.eval g = .func (.func gf) #[] lb) (eg : ∀ args w, (callFunc gf args).run Tryz.prog w = .ok (.enter gf args) w) (hps : ∀ x, (encs x).size = ps.size)
    (Kp : World → World → Prop) (hKt : ∀ A B C, Kp A B → Kp B C → Kp A C) (hKp : ∀ W l o o', w1.heap.size ≤ l → W.heap[l]? = some o → o.isCells = false → Kp W (W.putObj l o'))
    (I : List α → World → Prop) (Ix : Code → List α → World → Prop) (h0 : I [] w1)
    (hIt : ∀ (l : Nat) (J Jx : List α → World → Prop), (∀ p W, J p W → I p W) → (∀ p W W', J p W → Below W.heap.size W W' → J p W') →
     (∀ p x W, p ++ [x] <+: L → J p W → YieldAt Fence.wide 0 Tryz.prog l (encs x) W fun e W' => (e = .returned (.bool true) ∧ J (p ++ [x]) W' ∧ Kp W W') ∨ (e = .returned (.bool false) ∧ Jx (p ++ [x]) W')) →
     ∀ W, J [] W → CallsIn Fence.wide 1 Tryz.prog gf (#[.func (.yield l) #[] #[]] ++ lb) W fun e W' => (∃ v, e = .returned v) ∧ (J L W' ∨ ∃ p, p <+: L ∧ Jx p W'))
    (hIb : ∀ pre W W', I pre W → Below W.heap.size W W' → I pre W')
    (hIp : ∀ pre W l o o', I pre W → w1.heap.size ≤ l → W.heap[l]? = some o → o.isCells = false → I pre (W.putObj l o'))
    (hIx : ∀ c pre W l o o', Ix c pre W → w1.heap.size ≤ l → W.heap[l]? = some o → o.isCells = false → Ix c pre (W.putObj l o'))
    (Ax : α → Act → World → Prop) (hAx : ∀ x a' W l o o', Ax x a' W → w1.heap.size ≤ l → W.heap[l]? = some o → o.isCells = false → Ax x a' (W.putObj l o'))
    (hassign : ∀ (l : Nat) (pre : List α) (x : α) (W : World) (K : Act → World → Prop), pre ++ [x] <+: L → I pre W → (∀ a' W', Below W.heap.size W W' → Kp W W' → I pre W' → Ax x a' W' → K a' W') →
     assign.wpIn (Fence.wide.inRound l) 0 Tryz.prog (Exit.then K (fun _ _ _ => False)) { tmps := (ps.zip (encs x)).foldl (fun t (p, v) => t.setIfInBounds p v) a.tmps, defers := [] } W)
    (hbody : ∀ (l : Nat) (pre : List α) (x : α) (a' : Act) (W : World), pre ++ [x] <+: L → I pre W → Ax x a' W →
     body.wpIn (Fence.wide.inRound l) 0 Tryz.prog (fun e _ W3 => xPost w1.heap.size Kp I Ix (pre ++ [x]) W e W3) a' W)
    (hdone : ∀ (W : World), I L W → W.heap[w1.heap.size]? = some (.deferred (some [])) → Q .normal { a with defers := { target := .collected w1.heap.size, args := #[] } :: a.defers } W)
    (hstop : ∀ (c : Code) (pre : List α) (W : World), pre <+: L → Ix c pre W → W.heap[w1.heap.size]? = some (.deferred (some [])) → c.wpIn Fence.wide 2 Tryz.prog Q { a with defers := { target := .collected w1.heap.size, args := #[] } :: a.defers } W) :
    (Code.rangeFunc g ps assign body).wpIn Fence.wide 2 Tryz.prog Q a w1 := by
  refine wpIn_rangeFunc ?_
  intro fn hfn
  obtain ⟨rec, hrec⟩ : ∃ rec : LoopState → Option Code → Loop, rec = fun st pe => { state := st, pending := pe, fn, tmps := a.tmps, params := ps, assign, body, defers := w1.heap.size } := ⟨_, rfl⟩
  obtain ⟨W1, hW1⟩ : ∃ W1, (w1.alloc (.deferred (some []))).alloc (.loop (rec .ready none)) = W1 := ⟨_, rfl⟩
  have hL1 : W1.heap[w1.heap.size + 1]? = some (.loop (rec .ready none)) := by
   rw [← hW1]; have := World.alloc_heap_new (w1.alloc (.deferred (some []))) (.loop (rec .ready none)); rwa [World.size_alloc] at this
  have hK1 : W1.heap[w1.heap.size]? = some (.deferred (some [])) := by
   rw [← hW1]; exact (Below.heap_alloc _ _ _ (by simp)).trans (World.alloc_heap_new w1 _)
  have hI1 : I [] W1 := by rw [← hW1]; exact hIb _ _ _ h0 (((Below.refl _ _).alloc (Nat.le_refl _) _).alloc (by simp) _)
  refine ⟨w1.heap.size + 1, [{ target := .collected w1.heap.size, args := #[] }], W1, { target := .fn (.func gf) lb, args := #[.func (.yield (w1.heap.size + 1)) #[] #[]] }, W1, gf,
   #[.func (.yield (w1.heap.size + 1)) #[] #[]] ++ lb, W1, ?_, ?_, ?_, ?_, (fun h => by cases h), ?_⟩
  ·rw [← hW1, hrec]; exact run_enterLoop_outer _ _ _ _ _
  ·simp only [resolve, hg]
   simp [go_sem]
  ·intro _ _; trivial
  ·simp [invoke, go_sem, eg]
  ·refine (hIt (w1.heap.size + 1) (fun pre W => I pre W ∧ W.heap[w1.heap.size + 1]? = some (.loop (rec .ready none)) ∧ W.heap[w1.heap.size]? = some (.deferred (some [])))
     (fun pre W => ∃ c, Ix c pre W ∧ W.heap[w1.heap.size + 1]? = some (.loop (rec .done (some c))) ∧ W.heap[w1.heap.size]? = some (.deferred (some [])))
     (fun _ _ h => h.1) (fun p W W' h hb => ⟨hIb _ _ _ h.1 hb, (hb.block _ (Array.getElem?_eq_some_iff.1 h.2.1).1).trans h.2.1, (hb.block _ (Array.getElem?_eq_some_iff.1 h.2.2).1).trans h.2.2⟩) ?_ W1 ⟨hI1, hL1, hK1⟩).mono ?_
   ·
    rintro pre x W hpx ⟨hi, hl, hk⟩
    have hy := run_yield (P := Tryz.prog) (args := encs x) hl (by rw [hrec]; exact hps x)
    rw [hrec] at hy
    refine ⟨fn, _, assign, body, hy, roundIn_of_wpIn hfn (hassign _ pre x W _ hpx hi ?_)⟩
    clear hy
    intro a' Wa hba hkpa hia hax
    replace hl := (hba.block _ (Array.getElem?_eq_some_iff.1 hl).1).trans hl
    replace hk := (hba.block _ (Array.getElem?_eq_some_iff.1 hk).1).trans hk
    have hlt : w1.heap.size + 1 < Wa.heap.size := (Array.getElem?_eq_some_iff.1 hl).1
    refine ⟨_, run_beginRound hl (by rw [hrec]), ?_⟩
    have hl2 : (Wa.putObj (w1.heap.size + 1) (.loop { rec .ready none with state := .busy })).heap[w1.heap.size + 1]? = some (.loop { rec .ready none with state := .busy }) := World.putObj_heap_same hlt
    have hk2 : (Wa.putObj (w1.heap.size + 1) (.loop { rec .ready none with state := .busy })).heap[w1.heap.size]? = some (.deferred (some [])) := (World.putObj_heap_other (by omega)).trans hk
    have hw2 : Kp Wa (Wa.putObj (w1.heap.size + 1) (.loop { rec .ready none with state := .busy })) := hKp _ _ _ _ (by omega) hl rfl
    refine wpIn_mono (hbody _ pre x a' _ hpx (hIp _ _ _ _ _ hia (by omega) hl rfl) (hAx _ _ _ _ _ _ hax (by omega) hl rfl)) ?_
    have fin : ∀ (jump : Option Code) (W3 : World), KeepsFrom w1.heap.size (Wa.putObj (w1.heap.size + 1) (.loop { rec .ready none with state := .busy })) W3 →
        (Instr.endRound (w1.heap.size + 1) jump).run Tryz.prog W3 = .ok (.bool jump.isNone) (W3.putObj (w1.heap.size + 1) (.loop (rec (if jump.isNone then .ready else .done) jump))) ∧
        W3.heap[w1.heap.size + 1]? = some (.loop { rec .ready none with state := .busy }) ∧
        (W3.putObj (w1.heap.size + 1) (.loop (rec (if jump.isNone then .ready else .done) jump))).heap[w1.heap.size + 1]? = some (.loop (rec (if jump.isNone then .ready else .done) jump)) ∧
        (W3.putObj (w1.heap.size + 1) (.loop (rec (if jump.isNone then .ready else .done) jump))).heap[w1.heap.size]? = some (.deferred (some [])) := fun jump W3 hk3 => by
      have hl3 := hk3.same _ _ (by omega) hl2 rfl
      have := run_endRound (P := Tryz.prog) jump hl3
      rw [hrec] at this ⊢
      exact ⟨this, by rw [hrec] at hl3; exact hl3, World.putObj_heap_same (Array.getElem?_eq_some_iff.1 hl3).1, (World.putObj_heap_other (by omega)).trans (hk3.same _ _ (Nat.le_refl _) hk2 rfl)⟩
    rintro e a3 W3 hp
    cases e with
    | normal =>
      obtain ⟨hk3, hkp3, hi3⟩ := hp
      obtain ⟨hr, hl3, hl4, hk4⟩ := fin none W3 hk3
      exact ⟨_, _, hr, .inl ⟨rfl, ⟨hIp _ _ _ _ _ hi3 (by omega) hl3 rfl, hl4, hk4⟩, hKt _ _ _ hkpa (hKt _ _ _ (hKt _ _ _ hw2 hkp3) (hKp _ _ _ _ (by omega) hl3 rfl))⟩⟩
    | ret =>
      obtain ⟨hk3, hi3⟩ := hp
      obtain ⟨hr, hl3, hl4, hk4⟩ := fin (some .ret) W3 hk3
      exact ⟨_, _, hr, .inr ⟨rfl, .ret, hIx _ _ _ _ _ _ hi3 (by omega) hl3 rfl, hl4, hk4⟩⟩
    | exit id =>
      obtain ⟨hk3, hi3⟩ := hp
      obtain ⟨hr, hl3, hl4, hk4⟩ := fin (some (.exit id)) W3 hk3
      exact ⟨_, _, hr, .inr ⟨rfl, .exit id, hIx _ _ _ _ _ _ hi3 (by omega) hl3 rfl, hl4, hk4⟩⟩
    | goto t => exact hp.elim
    | panic ch => exact hp.elim
    | outgrown => exact hp.elim
   ·
    rintro e W2 ⟨⟨v, rfl⟩, (⟨hi, hl, hk⟩ | ⟨pre, hSp, c, hi, hl, hk⟩)⟩
    ·exact ⟨none, _, by have := run_endLoop (P := Tryz.prog) hl (by rw [hrec]; simp); rw [hrec] at this; exact this, hdone _ (hIp _ _ _ _ _ hi (by omega) hl rfl) ((World.putObj_heap_other (by omega)).trans hk)⟩
    ·exact ⟨some c, _, by have := run_endLoop (P := Tryz.prog) hl (by rw [hrec]; simp); rw [hrec] at this; exact this, hstop c pre _ hSp (hIx _ _ _ _ _ _ hi (by omega) hl rfl) ((World.putObj_heap_other (by omega)).trans hk)⟩
end Go.Proofs.YteaokkaidcbdlaaGreatDoor

namespace Go.Proofs.YteaokkaidcbdlaaGreatDoor
open Go Go.RowKit Go.Shelf
theorem rows_round {l n : Nat} {P : Program} {row : String} {args : Array Value} {w : World} {R : Value → World → Prop} (h : Rows P row args w R) : RowsIn (Fence.wide.inRound l) n P row args w R := fun c cs _ =>
 let ⟨v, w', r, s⟩ := h c cs
 ⟨v, w', r, (stepsIn_wide (P := P)).2 s⟩
theorem oper_round {l : Nat} {P : Program} {o : Oper} {a : Act} {w : World} {K : Act → World → Prop} {Q : Exit → Act → World → Prop} (hd : ∀ c, o.op ≠ .defer c) (h : o.wp P a w K Q) : o.wpIn (Fence.wide.inRound l) 0 P a w K Q := by
 refine ⟨fun _ _ => trivial, ?_⟩
 rw [Oper.semAt_plain _ _ _ hd]
 unfold Oper.wp at h
 generalize (execOp a.eval o).run P w = r at h
 cases r with
 | ok n w' =>
   cases n with
   | value v => exact h
   | skip => exact h
   | defer d => exact h
   | enter f args => exact ⟨fun h => (by cases h), CallsIn.inRound l (callsIn_wide.2 h)⟩
   | row row args => exact ⟨fun h => (by cases h), rows_round h⟩
   | _ => exact h.elim
 | halt e w' =>
   cases e with
   | panic v => exact h
   | _ => exact h.elim
def noDefer (ops : Array Oper) : Bool := ops.all fun o => match o.op with | .defer _ => false | _ => true
theorem noDefer_at {ops : Array Oper} (h : noDefer ops = true) {i : Nat} {o : Oper} (hi : ops[i]? = some o) : ∀ c, o.op ≠ .defer c := by
 intro c hc
 unfold noDefer at h
 rw [Array.all_eq_true] at h
 obtain ⟨h1, rfl⟩ := Array.getElem?_eq_some_iff.1 hi
 have := h i h1
 rw [hc] at this
 cases this
theorem any_round {l : Nat} {P : Program} {md : Region.Mode} {ops : Array Oper} {Q : Exit → Act → World → Prop} (hd : noDefer ops = true) (hQ : ¬ LetsOut Q) :
    ∀ (fuel : Nat) (done : Array Bool) (a : Act) (w : World), wpAny P md ops Q fuel done a w → wpAnyIn (Fence.wide.inRound l) 0 P md ops Q fuel done a w := by
  intro fuel
  induction fuel with
  | zero => exact fun _ _ _ h => h
  | succ fuel ih =>
    intro done a w h
    refine ⟨h.1, fun i hi => ?_⟩
    have h1 := h.2 i hi
    unfold wpOp at h1
    unfold wpOpIn
    cases ho : ops[i]? with
    | none => rw [ho] at h1; exact ih _ _ _ h1
    | some o =>
      rw [ho] at h1
      dsimp only at h1 ⊢
      split at h1
      ·rename_i hw
       rw [if_pos hw]
       rcases h1 with h1 | h1
       ·exact oper_round (noDefer_at hd ho) (Oper.wp_mono (fun a w h => ih _ a w h) h1)
       ·exact absurd h1.2 hQ
      ·rename_i hw
       rw [if_neg hw]
       exact ⟨fun _ _ => trivial, ih _ _ _ h1⟩
theorem region_round {l id : Nat} {P : Program} {ops : Array Oper} {Q : Exit → Act → World → Prop} {a : Act} {w : World} (hm : P.follows .mixedOrders = true) (hd : noDefer ops = true) (hQ : ¬ LetsOut Q)
    (h : wpAny P .any ops Q ops.size (Array.replicate ops.size false) a { w with drawn := w.drawn + 1 }) : (Code.region id ops true).wpIn (Fence.wide.inRound l) 0 P Q a w :=
  wpIn_region_any hm (any_round hd hQ _ _ _ _ h)
theorem quiet_round {l id : Nat} {P : Program} {ops : Array Oper} {C : World → Prop} {Q : Exit → Act → World → Prop} {a : Act} {w : World} (hm : P.follows .mixedOrders = true) (hB : Region.lexB .any ops = true) (hd : noDefer ops = true) (hQ : ¬ LetsOut Q) (hC : C { w with drawn := w.drawn + 1 })
    (h : wpQuiet P ops C (fun a' => ∀ w', C w' → Q .normal a' w') ops.toList a) : (Code.region id ops true).wpIn (Fence.wide.inRound l) 0 P Q a w := by
  simp only [Region.lexB, Bool.and_eq_true] at hB
  refine region_round hm hd hQ (wpAny_of_quiet (Q := fun a' => ∀ w', C w' → Q .normal a' w') (fun _ w' hw' h => h w' hw') _ _ _ _ hC ?_)
  have := wpAnyQ_lex (C := C) (md := .any) hB.1 ops.toList 0 (Array.replicate ops.size false) a (by simp) (by simpa using hB.2) h
  simpa using this
theorem tail_round {l' id : Nat} {P : Program} {Q : Exit → Act → World → Prop} {a : Act} {w : World} {l : List Oper} (n : Nat) (hm : P.follows .mixedOrders = true) (hB : Region.lexTailB .any l.toArray n = true) (hd : noDefer l.toArray = true) (hQ : ¬ LetsOut Q)
    (h : wpQuiet P l.toArray (fun w' => ∃ n, w' = w.drewN n) (fun a' => ∀ w', (∃ n, w' = w.drewN n) → wpList P l.toArray Q (l.drop n) a' w') (l.take n) a) : (Code.region id l.toArray true).wpIn (Fence.wide.inRound l') 0 P Q a w := by
  simp only [Region.lexTailB, Bool.and_eq_true, decide_eq_true_eq] at hB
  obtain ⟨⟨⟨⟨hsel, hn⟩, hs⟩, hc⟩, hlex⟩ := hB
  have hn' : n < l.length := by simpa using hn
  have htl : (l.take n).length = n := by simp; omega
  have hdl : (l.drop n).length = l.toArray.size - n := by simp
  have inv0 : HeadInv .any l.toArray n (Array.replicate l.toArray.size false) :=
   ⟨by simp, fun j oj _ hl => (by rw [getD_replicate_false] at hl; cases hl), fun t _ ht => getD_in (by simpa using ht) (getD_replicate_false _ _)⟩
  have H := Headed.lex (P := P) (g := l.toArray.size - n) hsel hs hc hn (l.take n) 0 _ a (fun j hj => by
   rw [htl] at hj
   simp [hj]) (by simpa using htl) inv0 (by rw [htl]; exact hlex) h
  refine region_round hm hd hQ ?_
  have := Headed.any (Q := Q) (g := l.toArray.size - n) (fun done a' w' hw' hL => by
   have := wpAny_of_seq (md := .any) (Q' := Q) (l.drop n) n done a' w' (fun j => by simp [List.getElem?_drop]) (by rw [hdl]; exact hL.1) (hL.2 w' hw')
   rwa [hdl] at this) _ _ _ { w with drawn := w.drawn + 1 } ⟨1, rfl⟩ H
  rw [htl, show n + (l.toArray.size - n) = l.toArray.size by omega] at this
  exact this
end Go.Proofs.YteaokkaidcbdlaaGreatDoor

namespace Go.Proofs.YteaokkaidcbdlaaGreatDoor
open Go Go.RowKit Go.Shelf
def dgt (d : Nat) : UInt8 := if d < 10 then UInt8.ofNat (48 + d) else UInt8.ofNat (87 + d)
def dgU (d : Nat) : UInt8 := if d < 10 then UInt8.ofNat (48 + d) else UInt8.ofNat (55 + d)
def digL (b : Nat) : Nat → Nat → List UInt8
 | 0, n => [dgt n]
 | f + 1, n => if n < b then [dgt n] else digL b f (n / b) ++ [dgt (n % b)]
theorem digL_last {b f n : Nat} (h : n < b) : digL b f n = [dgt n] := by
 cases f with
 | zero => rfl
 | succ f => unfold digL; rw [if_pos h]
theorem digL_more {b f n : Nat} (h : ¬ n < b) : digL b (f + 1) n = digL b f (n / b) ++ [dgt (n % b)] := by
 conv => lhs; unfold digL
 rw [if_neg h]
def digN : Nat → Nat → List UInt8
 | 0, _ => []
 | k + 1, h => digN k (h / 36) ++ [dgU (h % 36)]
theorem up_dgt : ∀ d : Fin 36, Lib.upperB (dgt d.val) = dgU d.val ∧ (dgt d.val).toNat < 128 := by decide
theorem digN_zero : ∀ k, digN k 0 = List.replicate k 48
 | 0 => rfl
 | k + 1 => by
   unfold digN
   rw [show 0 / 36 = 0 from rfl, digN_zero k, List.replicate_succ']
   rfl
theorem pad_digits : ∀ (f h k : Nat), h < 36 ^ (f + 1) → h < 36 ^ (k + 1) → (digL 36 f h).length ≤ k + 1 ∧ List.replicate (k + 1 - (digL 36 f h).length) 48 ++ (digL 36 f h).map Lib.upperB = digN (k + 1) h := by
 have one : ∀ (h k : Nat), h < 36 → [dgt h].length ≤ k + 1 ∧ List.replicate (k + 1 - [dgt h].length) 48 ++ [dgt h].map Lib.upperB = digN (k + 1) h := by
  intro h k hh
  refine ⟨by simp, ?_⟩
  unfold digN
  rw [show h / 36 = 0 by omega, digN_zero, show h % 36 = h by omega, List.map_cons, List.map_nil, (up_dgt ⟨h, hh⟩).1]
  simp
 intro f
 induction f with
 | zero => intro h k hf hk; exact one h k (by simpa using hf)
 | succ f ih =>
   intro h k hf hk
   by_cases hh : h < 36
   ·rw [digL_last hh]; exact one h k hh
   ·rw [digL_more hh]
    cases k with
    | zero => exact absurd (by simpa using hk) hh
    | succ k =>
      have h1 : h / 36 < 36 ^ (f + 1) := by rw [Nat.div_lt_iff_lt_mul (by decide)]; rw [Nat.pow_succ] at hf; exact hf
      have h2 : h / 36 < 36 ^ (k + 1) := by rw [Nat.div_lt_iff_lt_mul (by decide)]; rw [Nat.pow_succ] at hk; exact hk
      obtain ⟨a, b⟩ := ih (h / 36) k h1 h2
      refine ⟨by simp; omega, ?_⟩
      rw [List.length_append, List.map_append, ← List.append_assoc, show k + 1 + 1 - ((digL 36 f (h / 36)).length + [dgt (h % 36)].length) = k + 1 - (digL 36 f (h / 36)).length by simp, b]
      conv => rhs; unfold digN
      rw [List.map_cons, List.map_nil, (up_dgt ⟨h % 36, by omega⟩).1]
theorem digL_ascii : ∀ (f h : Nat), h < 36 ^ (f + 1) → ∀ b ∈ digL 36 f h, b.toNat < 128 := by
 intro f
 induction f with
 | zero => intro h hf b hb; simp [digL] at hb; subst hb; exact (up_dgt ⟨h, by simpa using hf⟩).2
 | succ f ih =>
   intro h hf b hb
   by_cases hh : h < 36
   ·rw [digL_last hh] at hb; simp at hb; subst hb; exact (up_dgt ⟨h, hh⟩).2
   ·rw [digL_more hh, List.mem_append, List.mem_singleton] at hb
    rcases hb with hb | rfl
    ·exact ih _ (by rw [Nat.div_lt_iff_lt_mul (by decide)]; rw [Nat.pow_succ] at hf; exact hf) b hb
    ·exact (up_dgt ⟨h % 36, by omega⟩).2
theorem repeat_zero : ∀ n, Lib.repeatL [48] n = List.replicate n 48
 | 0 => rfl
 | n + 1 => by unfold Lib.repeatL; rw [repeat_zero n, List.replicate_succ]; rfl
def digStep (h : Nat) (c : UInt8) : Nat := (257 * h + c.toNat) % 9007199254740881
def digestN (l : List UInt8) : Nat := l.foldl digStep 5381
def digestL (l : List UInt8) : List UInt8 := 84 :: digN 12 (digestN l)
theorem digestN_lt : ∀ (l : List UInt8) (h : Nat), h < 9007199254740881 → l.foldl digStep h < 9007199254740881
 | [], h, hh => hh
 | c :: l, h, _ => digestN_lt l _ (Nat.mod_lt _ (by decide))
theorem digest_lt (l : List UInt8) : digestN l < 36 ^ 11 := Nat.lt_trans (digestN_lt l 5381 (by decide)) (by decide)
theorem digest_eq (l : List UInt8) : digestL l = [84] ++ (Lib.repeatL [48] (12 - (digL 36 10 (digestN l)).length) ++ Lib.toUpperA (digL 36 10 (digestN l))) := by
 have h := pad_digits 10 (digestN l) 11 (digest_lt l) (Nat.lt_trans (digest_lt l) (by decide))
 unfold digestL Lib.toUpperA
 rw [repeat_zero, h.2]; rfl
theorem digest_len (l : List UInt8) : (digL 36 10 (digestN l)).length ≤ 11 := (pad_digits 10 (digestN l) 10 (digest_lt l) (digest_lt l)).1
theorem ret_two {a a' b b' : Value} (h : a = a') (k : b = b') : Ending.returned (.tuple #[a, b]) = .returned (.tuple #[a', b']) := by rw [h, k]
theorem pow_no (b nb r : Int) (w : World) (hb : 2 ≤ b ∧ b ≤ 36) (h1 : b - 1 = nb) (h2 : bits BinOp.and .i64 b nb = r) (h3 : (r == 0) = false) : Calls Tryz.prog 220 #[.int .i64 b] w fun r w' => r = .returned (.bool false) ∧ w = w' := by
 go_enter Tryz.func220, Tryz.ntmps220
 go_wp2
 go_ret
 exact ⟨rfl, rfl⟩
theorem pow_not {b : Nat} (h : b = 36) (w : World) : Calls Tryz.prog 220 #[.int .i64 b] w fun r w' => r = .returned (.bool false) ∧ w = w' := by
 subst h
 exact pow_no _ _ _ w (by decide) rfl rfl (by kernel_rfl)
def z8 : Value := .int .u8 0
def rowL (out : List UInt8) : List Value := List.replicate (65 - out.length) z8 ++ out.map fun c => .int .u8 (c.toNat : Int)
theorem zeros248 : Tryz.zeroCells248 = (rowL []).toArray := by kernel_rfl
theorem rowL_cons {out : List UInt8} (h : out.length < 65) (c : UInt8) : (rowL out).set (64 - out.length) (.int .u8 (c.toNat : Int)) = rowL (c :: out) := by
 unfold rowL
 rw [List.length_cons, show 65 - out.length = (64 - out.length) + 1 by omega, show 65 - (out.length + 1) = 64 - out.length by omega, List.replicate_succ', List.append_assoc, List.set_append_right _ _ (by simp)]
 simp
theorem rowL_at {out : List UInt8} (_h : out.length ≤ 65) (j : Nat) (hj : j < out.length) : (rowL out)[65 - out.length + j]? = some (.int .u8 (out[j].toNat : Int)) := by
 unfold rowL
 rw [List.getElem?_append_right (by simp)]
 simp [hj]
def digStr : ByteArray := ⟨#[48, 49, 50, 51, 52, 53, 54, 55, 56, 57, 97, 98, 99, 100, 101, 102, 103, 104, 105, 106, 107, 108, 109, 110, 111, 112, 113, 114, 115, 116, 117, 118, 119, 120, 121, 122]⟩
theorem digStr_fin : ∀ d : Fin 36, digStr[d.val]'(Nat.lt_of_lt_of_le d.isLt (by decide)) = dgt d.val := by decide
theorem digStr_at (d : Nat) (h : d < 36) (h' : d < digStr.size) : digStr[d] = dgt d := digStr_fin ⟨d, h⟩
theorem slice248 (N q : Nat) (hq : q < 65) (W : World) : (Instr.sliceAt 248 (.pointer (some ⟨N, 0, none⟩)) (some (.int .i64 q)) none none).run Tryz.prog W = .ok (.slice (some ⟨N, q, none⟩) (65 - q) (65 - q)) W := by
 have hu : Tryz.prog.underlying 248 = some (.array (Tryz.prog.arrayLen 248) (Tryz.prog.elem 248)) := by kernel_rfl
 have hl : Tryz.prog.arrayLen 248 = 65 := by kernel_rfl
 have he : Tryz.prog.elem 248 = 5 := by kernel_rfl
 rw [run_sliceAt_array_l W 248 ⟨N, 0, none⟩ hu .i64 q (by omega) (by rw [hl]; omega), hl, he, Tryz.sizeOf5 W]
 simp only [Result.andThen, slicedAt]
 rw [if_neg (by omega)]
 simp [Addr.add]; omega
theorem addr_add (N q j : Nat) : (⟨N, q, none⟩ : Addr).add j = ⟨N, q + j, none⟩ := by unfold Addr.add; split <;> simp_all
theorem quo_u64 (v b : Nat) (hb : b ≠ 0) (hv : v ≤ 9223372036854775807) (W : World) : (Op.intDiv .quo .u64 (v : Int) (b : Int)).run Tryz.prog W = .ok (.int .u64 ((v / b : Nat) : Int)) W := by
 unfold Op.intDiv
 rw [if_neg (by omega)]
 have h : (v : Int).tdiv (b : Int) = ((v / b : Nat) : Int) := by rw [Int.tdiv_eq_ediv_of_nonneg (by omega)]; simp
 have h2 : v / b ≤ v := Nat.div_le_self _ _
 have hw : IntKind.u64.wrap ((v / b : Nat) : Int) = ((v / b : Nat) : Int) := by
  generalize v / b = q at h2
  have : q < 18446744073709551616 := by omega
  rw [IntKind.wrap_u64]
  omega
 show (pure (Value.int .u64 (IntKind.u64.wrap ((v : Int).tdiv (b : Int)))) : Sem Value).run Tryz.prog W = _
 rw [h, hw]
 exact Sem.run_pure _ _ _
set_option maxRecDepth 100000 in
set_option maxHeartbeats 2000000 in
theorem bits_odd {b : Nat} (hp : b = 36) (n : Nat) (hn : n < 131621703842267136) (w : World) : Calls Tryz.prog 195 #[.slice none 0 0, .int .u64 n, .int .i64 b, .bool false, .bool false] w fun r w' => r = .returned (.tuple #[.slice none 0 0, .string (⟨(digL b 10 n).toArray⟩)]) ∧ Below w.heap.size w w' := by
 have hb : 2 ≤ b ∧ b ≤ 36 ∧ b ≠ 10 := by subst hp; decide
 have HP := hide (fun W => pow_not hp W)
 have e1 : ((b : Int) == 10) = false := by simp; omega
 have HB := Lib.hid hp
 clear hp
 have hB0 : Below w.heap.size w (w.alloc (.cells Tryz.zeroCells248 248)) := (Below.refl w.heap.size w).alloc (Nat.le_refl _) _
 have hR0 : Blk (w.alloc (.cells Tryz.zeroCells248 248)) w.heap.size (rowL []) 248 := by rw [zeros248]; exact Blk.new w (rowL []) 248
 go_enter Tryz.func195, Tryz.ntmps195
 go_wp2_with (first | (go_at_call 220; refine (unhide HP _).mono ?_; rintro r w' ⟨rfl, rfl⟩))
 clear HP
 generalize w.alloc (.cells Tryz.zeroCells248 248) = W1 at hB0 hR0 ⊢
 obtain ⟨N, hN⟩ : ∃ N, w.heap.size = N := ⟨_, rfl⟩
 rw [hN] at hB0 hR0 ⊢
 go_loopw [1, 13, 18] (fun u i _ wr => ∃ (v : Nat) (p : Nat) (out : List UInt8), u = .int .u64 v ∧ i = .int .i64 p ∧ p + out.length = 65 ∧ out.length ≤ 10 ∧ v * b ^ out.length ≤ n ∧ digL b 10 n = digL b (10 - out.length) v ++ out ∧ Blk wr N (rowL out) 248 ∧ Below N w wr) (fun u _ _ _ => (intOf u).toNat)
 case atStart => exact ⟨n, 65, [], rfl, rfl, rfl, by simp, by simp, by simp, hR0, hB0⟩
 case round =>
  obtain ⟨v, p, out, rfl, rfl, hpo, ho30, hv, hd, hr, hbl⟩ := hrel
  obtain ⟨q, rfl⟩ : ∃ q, p = q + 1 := ⟨p - 1, by omega⟩
  have hcq : wr.cell? ⟨N, q, none⟩ = some (.int .u8 0) := by
   rw [hr.cell q]; unfold rowL
   rw [List.getElem?_append_left (by simp; omega)]
   simp [List.getElem?_replicate, z8]; omega
  have hzq := hr.frozen q
  by_cases hvb : v < b
  ·have hvb' : ¬ ((b : Int) ≤ v) := by omega
   have h36 : v < 36 := by omega
   have hsl := fun W => slice248 N q (by omega) W
   have hd1 := hd
   rw [digL_last hvb] at hd1
   have HD := Lib.hid hd1
   have hR := hr.set q (.int .u8 ((dgt v).toNat : Int))
   have eq : q = 64 - out.length := by omega
   have hRr : Blk (wr.setCell ⟨N, q, none⟩ (.int .u8 ((dgt v).toNat : Int))) N (rowL (dgt v :: out)) 248 := by
    rw [← rowL_cons (by omega), ← eq]; exact hR
   have hlen : (dgt v :: out).length = 65 - q := by simp; omega
   have hcv := run_convert_bytes_back (P := Tryz.prog) (wr.setCell ⟨N, q, none⟩ (.int .u8 ((dgt v).toNat : Int))) 160 9 5 ⟨N, q, none⟩ (65 - q) (dgt v :: out) Tryz.underlying160 Tryz.underlying5 Tryz.underlying9 (fun j hj => by
    have h1 := hRr.cell (q + j)
    have h2 := rowL_at (out := dgt v :: out) (by simp; omega) j hj
    rw [show 65 - (dgt v :: out).length + j = q + j by rw [hlen]; omega] at h2
    rw [addr_add]
    exact h1.trans h2)
   rw [hlen] at hcv
   have hdv : ∀ h', @getElem ByteArray Nat UInt8 _ _ (⟨#[48, 49, 50, 51, 52, 53, 54, 55, 56, 57, 97, 98, 99, 100, 101, 102, 103, 104, 105, 106, 107, 108, 109, 110, 111, 112, 113, 114, 115, 116, 117, 118, 119, 120, 121, 122]⟩ : ByteArray) v h' = dgt v := fun h' => digStr_at v (by omega) h'
   clear hr hR hRr hd hd1 eq hlen hv
   go_wp2
   go_ret2
   exact ⟨ret_two rfl (by rw [HD.out]; rfl), hbl.setCell (Nat.le_refl _) _⟩
  ·have hol : out.length < 10 := by
     rcases Nat.lt_or_ge out.length 10 with h | h
     ·exact h
     ·have e : out.length = 10 := by omega
      have e36 := HB.out
      rw [e, e36] at hv
      have h1 : 36 * 36 ^ 10 ≤ v * 36 ^ 10 := Nat.mul_le_mul_right _ (by omega)
      have e2 : 36 * 36 ^ 10 = 131621703842267136 := by decide
      omega
   have hvn : v ≤ 9223372036854775807 := by
    have h1 : v * 1 ≤ v * b ^ out.length := Nat.mul_le_mul_left _ (Nat.pow_pos (by omega))
    omega
   have hq := fun W => quo_u64 v b (by omega) hvn W
   have hce : ((v / b : Nat) : Int) = (v : Int) / (b : Int) := by simp
   have hmb' : v / b * b ≤ v := Nat.div_mul_le_self v b
   have hdl : v / b ≤ v := Nat.div_le_self _ _
   have hw1 : IntKind.u64.wrap ((v : Int) / (b : Int)) = (v : Int) / (b : Int) := by
    rw [← hce, IntKind.wrap_u64]
    generalize v / b = X at hdl ⊢
    omega
   have hw2 : IntKind.u64.wrap ((v : Int) / (b : Int) * (b : Int)) = (v : Int) / (b : Int) * (b : Int) := by
    rw [← hce, ← Int.natCast_mul, IntKind.wrap_u64]
    generalize v / b * b = X at hmb' ⊢
    omega
   have hm : IntKind.u64.wrap ((v : Int) - (v : Int) / (b : Int) * (b : Int)) = (v % b : Nat) := by
    have h3 : v / b * b + v % b = v := by rw [Nat.mul_comm]; exact Nat.div_add_mod v b
    rw [← hce, ← Int.natCast_mul, IntKind.wrap_u64]
    generalize v / b * b = X at h3 ⊢
    generalize v % b = Y at h3 ⊢
    omega
   clear hce
   have hlt := Nat.mod_lt v (show 0 < b by omega)
   have hmore := digL_more (f := 9 - out.length) hvb
   rw [show 9 - out.length + 1 = 10 - out.length by omega] at hmore
   rw [hmore] at hd
   have hle : v / b * b ^ (out.length + 1) ≤ n := by
    have h4 : v / b * b * b ^ out.length ≤ v * b ^ out.length := Nat.mul_le_mul_right _ (Nat.div_mul_le_self v b)
    rw [Nat.pow_succ, Nat.mul_comm (b ^ out.length) b, ← Nat.mul_assoc]
    omega
   have hdec : v / b < v := Nat.div_lt_self (by omega) (by omega)
   have hR := hr.set q (.int .u8 ((dgt (v % b)).toNat : Int))
   have eq : q = 64 - out.length := by omega
   have hRr : Blk (wr.setCell ⟨N, q, none⟩ (.int .u8 ((dgt (v % b)).toNat : Int))) N (rowL (dgt (v % b) :: out)) 248 := by
    rw [← rowL_cons (by omega), ← eq]; exact hR
   have HR := Lib.hid hRr
   have HD := Lib.hid hd
   have hdv : ∀ h', @getElem ByteArray Nat UInt8 _ _ (⟨#[48, 49, 50, 51, 52, 53, 54, 55, 56, 57, 97, 98, 99, 100, 101, 102, 103, 104, 105, 106, 107, 108, 109, 110, 111, 112, 113, 114, 115, 116, 117, 118, 119, 120, 121, 122]⟩ : ByteArray) (v % b) h' = dgt (v % b) := fun h' => digStr_at (v % b) (by omega) h'
   clear hr hR hRr hmore hd eq
   obtain ⟨d, hdd⟩ : ∃ d, v % b = d := ⟨_, rfl⟩
   rw [hdd] at hm hlt HR HD hdv
   have h36 : d < 36 := by omega
   have hvb' : (b : Int) ≤ v := by omega
   go_wp2
   go_roundw
   case rel =>
    refine ⟨v / b, q, dgt d :: out, ?_, rfl, by simp; omega, by simp; omega, by simpa using hle, ?_, ?_, hbl.setCell (Nat.le_refl _) _⟩
    ·simp
    ·rw [HD.out]; simp
    ·exact HR.out
   case measure =>
    have e0 : ((v : Int) / b) = ((v / b : Nat) : Int) := by simp
    rw [e0]
    simp only [intOf, Int.toNat_natCast]
    exact hdec
end Go.Proofs.YteaokkaidcbdlaaGreatDoor

namespace Go.Proofs.YteaokkaidcbdlaaGreatDoor
open Go Go.RowKit Go.Shelf
theorem fmtIn_any (n : Nat) (hn : n < 131621703842267136) (W : World) : Calls Tryz.prog 144 #[.int .i64 n, .int .i64 36] W fun e w' => e = .returned (.string ⟨(digL 36 10 n).toArray⟩) ∧ Below W.heap.size W w' := by
 have H := hide (fun w => bits_odd rfl n hn w)
 have h1 : IntKind.u64.wrap (n : Int) = n := by rw [IntKind.wrap_u64]; omega
 have h2 : ¬ ((n : Int) < 0) := by omega
 go_enter Tryz.func144, Tryz.ntmps144
 go_wp2_with (first | (go_at_call 195; refine (unhide H _).mono ?_; rintro e w1 ⟨rfl, hb⟩))
 go_ret
 exact ⟨rfl, hb⟩
theorem fmt_any (n : Nat) (hn : n < 131621703842267136) (W : World) : Calls Tryz.prog 87 #[.int .i64 n, .int .i64 36] W fun e w' => e = .returned (.string ⟨(digL 36 10 n).toArray⟩) ∧ Below W.heap.size W w' := by
 have H := hide (fun w => fmtIn_any n hn w)
 go_enter Tryz.func87, Tryz.ntmps87
 go_wp2_with (first | (go_at_call 144; refine (unhide H _).mono ?_; rintro e w1 ⟨rfl, hb⟩))
 go_ret
 exact ⟨rfl, hb⟩
theorem repeat_any (c : Nat) (hc : c ≤ 12) (W : World) : Calls Tryz.prog 88 #[.string ⟨#[48]⟩, .int .i64 c] W fun e w' => e = .returned (.string ⟨(Lib.repeatL [48] c).toArray⟩) ∧ Below W.heap.size W w' := by
 match c with
 | 0 => exact (Tryz.strings_Repeat_zero _ W).mono fun e w' ⟨he, hw⟩ => ⟨he, hw ▸ Below.refl _ _⟩
 | 1 => exact (Tryz.strings_Repeat_one _ W).mono fun e w' ⟨he, hw⟩ => ⟨he, hw ▸ Below.refl _ _⟩
 | c + 2 => exact Tryz.strings_Repeat_main ⟨#[48]⟩ (c + 2) W (by omega) (by omega) (by simp [ByteArray.size]; omega) (by decide)
theorem upper_any (l : List UInt8) (hl : l.length ≤ 1000) (h : ∀ b ∈ l, b.toNat < 128) (W : World) : Calls Tryz.prog 86 #[.string ⟨l.toArray⟩] W fun e w' => e = .returned (.string ⟨(Lib.toUpperA l).toArray⟩) ∧ Below W.heap.size W w' := by
 have := Tryz.strings_ToUpper_ascii ⟨l.toArray⟩ W (by simp [ByteArray.size]; omega) (fun j b hb => h b (by simpa using List.mem_of_getElem? hb))
 simpa using this
theorem foldl_snoc' {s : ByteArray} {k : Nat} (h : k < s.size) : ((bs s).take (k + 1)).foldl digStep 5381 = digStep (((bs s).take k).foldl digStep 5381) s[k] := by
 rw [bs_snoc s k h, List.foldl_append]; rfl
set_option maxRecDepth 100000 in
set_option maxHeartbeats 4000000 in
theorem digest_any (s : ByteArray) (hs : s.size ≤ maxLen) (W : World) : Calls Tryz.prog 48 #[.string s] W fun e w' => e = .returned (.string ⟨(digestL (bs s)).toArray⟩) ∧ Below W.heap.size W w' := by
 unfold maxLen at hs
 have hlt1 := digest_lt (bs s)
 have H1 := hide (fun w => fmt_any (digestN (bs s)) (Nat.lt_of_lt_of_le hlt1 (by decide)) w)
 have hlen := digest_len (bs s)
 have H2 := hide (fun w => upper_any (digL 36 10 (digestN (bs s))) (by omega) (digL_ascii 10 _ hlt1) w)
 have H3 := hide (fun w => repeat_any (12 - (digL 36 10 (digestN (bs s))).length) (by omega) w)
 have HE := Lib.hid (digest_eq (bs s))
 have hup : (Lib.toUpperA (digL 36 10 (digestN (bs s)))).length = (digL 36 10 (digestN (bs s))).length := by unfold Lib.toUpperA; simp
 generalize Lib.toUpperA (digL 36 10 (digestN (bs s))) = U at H2 HE hup
 generalize hD : digL 36 10 (digestN (bs s)) = D at H1 H2 H3 HE hlen hup
 clear hlt1 hD
 generalize hR : Lib.repeatL [48] (12 - D.length) = R at H3 HE
 have hRl : R.length = 12 - D.length := by rw [← hR, repeat_zero]; simp
 clear hR
 obtain ⟨c, hc⟩ : ∃ c, 12 - D.length = c := ⟨_, rfl⟩
 have hcu : (12 : Int) - (U.length : Nat) = c := by omega
 rw [hc] at H3
 have HN := Lib.hid (show digestN (bs s) = ((bs s).take s.size).foldl digStep 5381 by rw [bs_all]; rfl)
 generalize digestN (bs s) = N at H1 HN
 have hRb : R.length ≤ 12 := by omega
 clear hc hRl
 have HU := Lib.hid hup
 clear hup
 go_enter Tryz.func48, Tryz.ntmps48
 go_wp2
 go_loopw [3, 8] (fun h i wr => ∃ k : Nat, k ≤ s.size ∧ i = .int .i64 k ∧ wr = W ∧ ∃ x : Nat, h = .int .i64 x ∧ x < 9007199254740881 ∧ Hid (x = ((bs s).take k).foldl digStep 5381)) (fun _ i _ => s.size - (intOf i).toNat)
 case atStart => exact ⟨0, Nat.zero_le _, rfl, rfl, 5381, rfl, by decide, Lib.hid rfl⟩
 case round =>
  obtain ⟨k, hk, rfl, rfl, x, rfl, hx, HX⟩ := hrel
  by_cases hlt : k < s.size
  ·have HT := Lib.hid (foldl_snoc' hlt)
   have hb : s[k].toNat < 256 := s[k].toNat_lt
   have hw1 : wrap64 (s[k].toNat : Int) = s[k].toNat := by rw [wrap64]; omega
   have hw2 : wrap64 (257 * (x : Int) + s[k].toNat) = ((257 * x + s[k].toNat : Nat) : Int) := by rw [wrap64]; omega
   have hm : ((257 * x + s[k].toNat : Nat) : Int).tmod 9007199254740881 = ((digStep x s[k] : Nat) : Int) := by
    rw [Int.tmod_eq_emod_of_nonneg (by omega)]; unfold digStep; omega
   have hd : digStep x s[k] < 9007199254740881 := Nat.mod_lt _ (by decide)
   have HS := Lib.hid hd
   have HM := Lib.hid hm
   have HW := Lib.hid hw2
   clear hm hd hw2 hb
   go_wp2
   go_roundw
   case rel =>
    refine ⟨k + 1, by omega, by go_num, trivial, digStep x s[k], ?_, HS.out, Lib.hid (by rw [HT.out, ← HX.out])⟩
    try rw [hw1]
    rw [HW.out, HM.out]
   case measure => simp [intOf]; omega
  ·obtain rfl : k = s.size := by omega
   have hxN := HX.out
   rw [← HN.out] at hxN
   subst hxN
   have hU := HU.out
   clear HU HX HN
   have H4 : Hide (∀ w, Calls Tryz.prog 88 #[.string ⟨#[48]⟩, .int .i64 (12 - (D.length : Int))] w fun e w' => e = .returned (.string ⟨R.toArray⟩) ∧ Below w.heap.size w w') := hide (by
    have e : (12 : Int) - (D.length : Int) = c := by omega
    rw [e]; exact unhide H3)
   clear H3 hcu
   go_wp2_with (first | (go_at_call 87; refine (unhide H1 _).mono ?_; rintro e w1 ⟨rfl, hb1⟩) | (go_at_call 86; refine (unhide H2 _).mono ?_; rintro e w2 ⟨rfl, hb2⟩) | (go_at_call 88; with_reducible refine (unhide H4 _).mono ?_; rintro e w3 ⟨rfl, hb3⟩))
   go_ret
   refine ⟨?_, (hb1.trans (hb2.mono hb1.size)).trans (hb3.mono (Nat.le_trans hb1.size hb2.size))⟩
   rw [HE.out]
   congr 2
end Go.Proofs.YteaokkaidcbdlaaGreatDoor

