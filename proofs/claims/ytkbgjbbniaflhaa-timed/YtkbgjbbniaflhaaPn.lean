/- 'usePeer': the address used last stands at the end of a mapping's peers; the first one goes when there are more than four. -/
import Derived.Test.YtkbgjbbniaflhaaPm
import Derived.Test.YtkbgjbbniaflhaaPh
namespace Go.Proofs.Ytkbgjbbniaflhaa
open Go.RowKit

def useF (l : List Int) (a : Int) : List Int := if 4 < (l.erase a ++ [a]).length then (l.erase a ++ [a]).eraseIdx 0 else l.erase a ++ [a]

theorem index_any (sv : Value) (zs : List Int) (x : Int) (w : World) (hown : w.ownsRow 0 3 1 sv zs.length (intsV zs)) :
    Calls Try.prog 78 #[sv, .int .i64 x] w fun e w' => e = .returned (.int .i64 (idxF zs x)) ∧ w' = w := by
  rcases hown.2 with ⟨rfl, hn⟩ | ⟨b, cap, cur, rfl, _⟩
  · have hz : zs = [] := List.eq_nil_of_length_eq_zero hn
    subst hz
    exact index_nil x w
  · exact index_some b zs.length cap zs x w hown

theorem row_ne {w : World} {sv : Value} {n : Nat} {xs : List Value} (hown : w.ownsRow 0 3 1 sv n xs) {g : Nat} {cs : Array Value} {e : TypeId} {fz : Nat × Nat} (hg : w.heap[g]? = some (.cells cs e fz)) (he : e ≠ 3) : sv.ownBlock ≠ some g := by
  intro h
  rcases hown.2 with ⟨rfl, _⟩ | ⟨b, cap, cur, rfl, _, hb, _⟩
  · cases h
  · cases h
    rw [hg] at hb
    cases hb
    exact he rfl

theorem ownsRow_keep {w w' : World} {sv : Value} {n : Nat} {xs : List Value} {X : Nat → Prop} (h : w.ownsRow 0 3 1 sv n xs) (hF : Fr X w w') (hX : ∀ k, sv.ownBlock = some k → ¬ X k) : w'.ownsRow 0 3 1 sv n xs := by
  refine ⟨h.1, ?_⟩
  rcases h.2 with h' | ⟨b, cap, cur, rfl, hb, hg, rest⟩
  · exact .inl h'
  · exact .inr ⟨b, cap, cur, rfl, hb, hF.some hg (hX b rfl), rest⟩

theorem memStore {w : World} {g : Nat} {sv sv' : Value} {m : Mp} {l : List Int} (hg : w.heap[g]? = some (.cells (mpC m sv) 105 (0, 0))) (hr : w.ownsRow 0 3 1 sv' l.length (intsV l)) :
    Mem (w.setCell ⟨g, 4, none⟩ sv') g sv' { m with peers := l } := by
  refine ⟨?_, ?_⟩
  · rw [setB hg]
    simp [mpC]
  · exact ownsRow_keep hr ((Fr.refl (fun k => k = g) w).setCell _ (fun _ => rfl)) (fun k hk e => row_ne hr hg (by decide) (e ▸ hk))

/-- the facts that a walk wants of a mapping in memory -/
theorem Mem.cells {w : World} {g : Nat} {sv : Value} {m : Mp} (h : Mem w g sv m) : g < w.heap.size ∧ w.cell? ⟨g, 0, none⟩ = some (.int .i64 m.proto) ∧ w.cell? ⟨g, 1, none⟩ = some (.int .i64 m.ia) ∧ w.cell? ⟨g, 2, none⟩ = some (.int .i64 m.ip) ∧ w.cell? ⟨g, 3, none⟩ = some (.int .i64 m.port) ∧ w.cell? ⟨g, 4, none⟩ = some sv ∧
    w.cell? ⟨g, 5, none⟩ = some (.int .i64 m.st) ∧ w.cell? ⟨g, 6, none⟩ = some (.int .i64 m.idle) ∧ w.cell? ⟨g, 7, none⟩ = some (.bool m.fo) ∧ w.cell? ⟨g, 8, none⟩ = some (.bool m.fi) ∧ ∀ o, w.frozen? ⟨g, o, none⟩ = false := by
  have hb := h.1
  refine ⟨(Array.getElem?_eq_some_iff.1 hb).1, ?_, ?_, ?_, ?_, ?_, ?_, ?_, ?_, ?_, fun o => ?_⟩ <;> simp [World.cell?, World.frozen?, hb, mpC]

theorem info3 : (Try.prog.info? 3).map (fun i => (i.zero, i.size, i.bytes)) = some (some (.int .i64 0), 1, 8) := by kernel_rfl

/-- what a step on the peers leaves: the new list in its place -/
def UsedS (w : World) (g : Nat) (sv : Value) (m : Mp) (l : List Int) (w' : World) (sv' : Value) : Prop :=
  Mem w' g sv' { m with peers := l } ∧ Fr (fun k => k = g ∨ sv.ownBlock = some k) w w' ∧ ∃ b, sv'.ownBlock = some b ∧ (sv.ownBlock = some b ∨ w.heap.size ≤ b)

/-- what usePeer leaves -/
def Used (w : World) (g : Nat) (sv : Value) (m : Mp) (l : List Int) (w' : World) : Prop := ∃ sv', UsedS w g sv m l w' sv'

theorem UsedS.trans {w w1 w2 : World} {g : Nat} {sv sv1 sv2 : Value} {m : Mp} {l1 l2 : List Int} (h : UsedS w g sv m l1 w1 sv1) (k : UsedS w1 g sv1 { m with peers := l1 } l2 w2 sv2) : UsedS w g sv m l2 w2 sv2 := by
  obtain ⟨h1, h2, b, h3, h4⟩ := h
  obtain ⟨k1, k2, c, k3, k4⟩ := k
  refine ⟨k1, h2.trans' k2 ?_, c, k3, ?_⟩
  · rintro i (hi | hi) hl
    · exact .inl hi
    · rw [h3] at hi
      cases hi
      rcases h4 with h4 | h4
      · exact .inr h4
      · omega
  · rcases k4 with k4 | k4
    · rw [h3] at k4
      cases k4
      exact h4
    · have := h2.size
      exact .inr (by omega)

end Go.Proofs.Ytkbgjbbniaflhaa
