/- What the packets and ticks of 'Timed' come to. -/
import Derived.Test.YtgpplekabohneaaRy
namespace Go.Proofs.Ytgpplekabohneaa
open Go.RowKit

def tb (l : List Mp) : List (Int × Tn) := [(1, ⟨1000, 100, 103, []⟩), (2, ⟨2000, 100, 103, l⟩), (3, ⟨3000, 100, 103, []⟩)]
def tm (p st idle : Int) : Mp := ⟨p, 5, 6, 100, [9], st, idle, false, false⟩
def tP (p : Int) (syn : Bool) : Pk := ⟨2, p, true, 5, 6, 9, 53, syn, false, false, false, 0, 0, 0, 0⟩
def tQ (p : Int) (syn : Bool) : Pk := ⟨2, p, true, 2000, 100, 9, 53, syn, false, false, false, 0, 0, 0, 0⟩
def tA (p : Int) : Pk := ⟨2, p, false, 9, 53, 2000, 100, false, false, false, false, 0, 0, 0, 0⟩
def tR (p : Int) : Pk := ⟨2, p, false, 9, 53, 5, 6, false, false, false, false, 0, 0, 0, 0⟩

theorem ti_stay {p st x n : Int} (h : x + n < spanF p st) : tickB n (tb [tm p st x]) = tb [tm p st (x + n)] := by
  have e : tickM n (tm p st x) = some (tm p st (x + n)) := if_pos (c := (tm p st x).idle + n < spanF (tm p st x).proto (tm p st x).st) h
  simp only [tickB, tb, tickF, List.map_cons, List.map_nil, List.filterMap_cons, List.filterMap_nil, e]

theorem ti_gone {p st x n : Int} (h : ¬ x + n < spanF p st) : tickB n (tb [tm p st x]) = tb [] := by
  have e : tickM n (tm p st x) = none := if_neg (c := (tm p st x).idle + n < spanF (tm p st x).proto (tm p st x).st) h
  simp only [tickB, tb, tickF, List.map_cons, List.map_nil, List.filterMap_cons, List.filterMap_nil, e]

theorem ti_1a : passB (tb []) (tP 1 false) = (tb [tm 1 0 0], tQ 1 false, 0, 0) := rfl
theorem ti_1b : passB (tb []) (tP 2 true) = (tb [tm 2 1 0], tQ 2 true, 0, 0) := rfl
theorem ti_1c : passB (tb []) (tP 3 false) = (tb [tm 3 0 0], tQ 3 false, 0, 0) := rfl
theorem ti_2a (x : Int) : passB (tb [tm 1 0 x]) (tA 1) = (tb [tm 1 0 x], tR 1, 0, 0) := rfl
theorem ti_2b (x : Int) : passB (tb [tm 2 1 x]) (tA 2) = (tb [tm 2 2 0], tR 2, 0, 0) := rfl
theorem ti_2d (x : Int) : passB (tb [tm 2 2 x]) (tA 2) = (tb [tm 2 2 0], tR 2, 0, 0) := rfl
theorem ti_2c (x : Int) : passB (tb [tm 3 0 x]) (tA 3) = (tb [tm 3 0 x], tR 3, 0, 0) := rfl
theorem ti_3a : passB (tb []) (tA 1) = (tb [], pk0, 4, 0) := rfl
theorem ti_3b : passB (tb []) (tA 2) = (tb [], pk0, 4, 0) := rfl
theorem ti_3c : passB (tb []) (tA 3) = (tb [], pk0, 4, 0) := rfl

end Go.Proofs.Ytgpplekabohneaa
