/- A call that never starts a goroutine ends as a row that says 'leaving' asks. -/
import Derived.Conc.LeavingOf
import Derived.Handed
namespace Go.Proofs.Ytgpplekabohneaa

theorem leaving_of_handed {a : Assume} {C : Checked} {os : Os} {f : FuncId} {r : Reach} {Pre : World → Array Value → Prop} {Post : World → Array Value → Value → World → Prop} (h : ReturnsInHanded a C os f r Pre Post) : ReturnsInLeavingWide a C os f r Pre Post := fun enter =>
  ReturnsInOpen.mono (fun m _ _ x => ⟨x.2.1, ⟨fun g hg => ⟨0, by
    have h1 := x.1.1
    unfold Machine.othersDone at h1
    have := List.all_eq_true.1 h1 g hg
    show g.status = .finished
    simpa using this⟩, x.1.2⟩, x.2.2⟩) (fun _ x => x) (h enter)

end Go.Proofs.Ytgpplekabohneaa
