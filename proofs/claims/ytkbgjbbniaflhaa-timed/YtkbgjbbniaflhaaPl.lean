/- The contract of the library's slices.Delete, laid at this program. -/
import Derived.Test.YtkbgjbbniaflhaaProg
import Derived.Shelf.Slices.Delete
import Derived.Lib.SliceRun
namespace Go.Proofs.Ytkbgjbbniaflhaa
open Go.RowKit Go.Shelf Go.Lib Go.Sort

/-- the numbers of this program: slices.Delete is function 79, []int is type 50 -/
def ren23 : Ren := ⟨fun _ => 79, fun n => if n = 22 then 50 else n, fun n => n⟩

theorem lays23 : Lays2.n23 Try.prog ren23 where
  mixed := by kernel_rfl
  f23 := by kernel_rfl
  t0 := by kernel_rfl
  a0 := fun _ => by kernel_rfl
  z0 := fun _ => by kernel_rfl
  v0 := fun _ => by kernel_rfl
  t3 := by kernel_rfl
  a3 := fun _ => by kernel_rfl
  z3 := fun _ => by kernel_rfl
  v3 := fun _ => by kernel_rfl
  t4 := by kernel_rfl
  a4 := fun _ => by kernel_rfl
  z4 := fun _ => by kernel_rfl
  v4 := fun _ => by kernel_rfl
  t22 := by kernel_rfl
  a22 := fun _ => by kernel_rfl
  z22 := fun _ => by kernel_rfl
  v22 := fun _ => by kernel_rfl
  i3 := by kernel_rfl

theorem delete_raw (blk cap i j : Nat) (d : Array Int) (w : World) (hH : Holds encI w blk 0 d) (hcap : d.size ≤ cap) (hm : cap ≤ 9223372036854775807) (hij : i ≤ j) (hj : j ≤ d.size) :
    Calls Try.prog 79 #[.slice (some ⟨blk, 0, none⟩) d.size cap, .int .i64 i, .int .i64 j] w fun e w' => e = .returned (.slice (some ⟨blk, 0, none⟩) (d.size - (j - i)) cap) ∧ ∃ q, w' = putRow encI (Sort.ahead w q) blk 0 (d.toList.take i ++ d.toList.drop j ++ List.replicate (j - i) 0).toArray :=
  Any.slices_Delete_int_arr lays23 blk 0 cap i j d w hH hcap hm hij hj

end Go.Proofs.Ytkbgjbbniaflhaa
