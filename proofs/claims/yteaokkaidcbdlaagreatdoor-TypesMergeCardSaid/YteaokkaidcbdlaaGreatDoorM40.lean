/- Part 40 of 53: the texts Va, Vb, Vc, Vd, Vm, Vn, Vo, one behind the other. -/
import Derived.Test.YteaokkaidcbdlaaGreatDoorM26
import Derived.Test.YteaokkaidcbdlaaGreatDoorM28
import Derived.Test.YteaokkaidcbdlaaGreatDoorM35
import Derived.Test.YteaokkaidcbdlaaGreatDoorM23
import Derived.Test.YteaokkaidcbdlaaGreatDoorM22
import Derived.Test.YteaokkaidcbdlaaGreatDoorM16
import Derived.Test.YteaokkaidcbdlaaGreatDoorM25
namespace Go.Proofs.YteaokkaidcbdlaaGreatDoor
open Go Go.RowKit Go.Shelf
end Go.Proofs.YteaokkaidcbdlaaGreatDoor

namespace Go.Proofs.YteaokkaidcbdlaaGreatDoor
open Go Go.RowKit Go.Shelf
end Go.Proofs.YteaokkaidcbdlaaGreatDoor

namespace Go.Proofs.YteaokkaidcbdlaaGreatDoor
open Go Go.RowKit Go.Shelf
section
variable {G H : List TyD} {φ : Nat → Nat}
end
end Go.Proofs.YteaokkaidcbdlaaGreatDoor

namespace Go.Proofs.YteaokkaidcbdlaaGreatDoor
open Go Go.RowKit Go.Shelf
theorem ty_nums {G : List TyD} (hz : GrZ G) (hc : (checkR G).2 = 0) {i : Nat} (hi : i < G.length) :
    (supB (G.getD i default).kind = true → 0 ≤ (G.getD i default).super ∧ (G.getD i default).super < G.length) ∧ (∀ p ∈ (G.getD i default).parts, 0 ≤ p.type ∧ p.type < G.length) ∧
    ∀ m ∈ (G.getD i default).meths, (∀ x ∈ m.args, 0 ≤ x ∧ x < G.length) ∧ (m.result ≠ -1 → 0 ≤ m.result ∧ m.result < G.length) := by
  have hmem : G.getD i default ∈ G := by rw [List.getD_eq_getElem?_getD, List.getElem?_eq_getElem hi]; exact List.getElem_mem hi
  have h3 := (check_fit hz hc).2.2 _ hmem
  generalize G.getD i default = t at h3
  unfold refsOf at h3
  refine ⟨fun hs => h3 _ (by simp [hs]), fun p hp => h3 _ ?_, fun m hm => ⟨fun x hx => h3 _ ?_, fun hr => h3 _ ?_⟩⟩
  ·rw [List.mem_append, List.mem_append]
   exact .inr (.inl (List.mem_map_of_mem (f := (·.type)) hp))
  ·rw [List.mem_append, List.mem_append]
   exact .inr (.inr (List.mem_flatMap.2 ⟨m, hm, by unfold sigRefs; simp [hx]⟩))
  ·rw [List.mem_append, List.mem_append]
   exact .inr (.inr (List.mem_flatMap.2 ⟨m, hm, by unfold sigRefs; simp [hr]⟩))
end Go.Proofs.YteaokkaidcbdlaaGreatDoor

namespace Go.Proofs.YteaokkaidcbdlaaGreatDoor
open Go Go.RowKit Go.Shelf
end Go.Proofs.YteaokkaidcbdlaaGreatDoor

namespace Go.Proofs.YteaokkaidcbdlaaGreatDoor
open Go Go.RowKit Go.Shelf
section
variable {G : List TyD} {first : Nat × Nat} {C : Came} {Q : List (Nat × Nat)} {s : Option (Nat × Nat)} {D : List Nat} {k : Nat}
end
end Go.Proofs.YteaokkaidcbdlaaGreatDoor

namespace Go.Proofs.YteaokkaidcbdlaaGreatDoor
open Go Go.RowKit Go.Shelf
end Go.Proofs.YteaokkaidcbdlaaGreatDoor

