/- 'passErrorOut', 'passErrorIn': not passed on. -/
import Derived.Test.YtkbgjbbniaflhaaQi
namespace Go.Proofs.Ytkbgjbbniaflhaa
open Go.RowKit
open Go.ChangeMaps (setBlock)

set_option maxHeartbeats 2000000 in
theorem errOut_none {w : World} {S : Nat → Prop} {g hp hi : Nat} {T : Tn} {L : List Cl} (h : TenR w S g hp hi T L) (p : Pk) (hf : T.maps.find? (isI p.proto p.qda p.qdp) = none) :
    Calls Try.prog 42 #[.pointer (some ⟨g, 0, none⟩), .agg (pkC p)] w fun e w' => e = .returned (.tuple #[.agg (pkC pk0), .int .i64 4]) ∧ Below w.heap.size w w' := by
  have hB1 : Below w.heap.size w ((w.alloc (.cells (pkC p) 38)).alloc (.cells (pkC pk0) 38)).drew := (((Below.refl _ _).alloc (Nat.le_refl _) _).alloc (by simp) _).drew
  have hl := (h.new hB1).lookI_none hf
  obtain ⟨l1, -, -, -, -, c4⟩ := h.cells
  obtain ⟨tag, proto, out, sa, sp, da, dp, syn, fin, rst, err, qsa, qsp, qda, qdp⟩ := p
  unfold pkC at *
  dsimp only [pk0] at *
  have HB := hide hB1
  clear h hf hB1
  go_enter Try.func42, Try.ntmps42
  go_wp2
  go_region
  all_goals
    go_wp2
    refine bodyPost_ret (v := .tuple #[pk0V, .int .i64 4]) (by simp [results, Try.results42, go_sem, pk0V]) rfl ⟨rfl, ?_⟩
    exact unhide HB

end Go.Proofs.Ytkbgjbbniaflhaa
