/- A table in memory, row by row. -/
import Derived.Test.YtgpplekabohneaaWd
namespace Go.Proofs.Ytgpplekabohneaa
open Go.RowKit

theorem flat_at {R : List (Mp × Value)} : ∀ {i k : Nat} (hi : i < R.length), k < 7 → (R.flatMap fun y => rowC y.1 y.2)[i * 7 + k]? = (rowC R[i].1 R[i].2)[k]? := by
  induction R with
  | nil => intro i k hi; simp at hi
  | cons y r ih =>
    intro i k hi hk
    rw [List.flatMap_cons]
    have hl : (rowC y.1 y.2).length = 7 := rfl
    cases i with
    | zero =>
      rw [List.getElem?_append_left (by rw [hl]; omega)]
      simp
    | succ i =>
      rw [List.getElem?_append_right (by rw [hl]; omega), hl]
      have e : (i + 1) * 7 + k - 7 = i * 7 + k := by omega
      rw [e, ih (by simpa using hi) hk]
      simp

/-- a row of a table -/
def RowAt (W : World) (g base i : Nat) (m : Mp) : Prop :=
  ∃ ao c, W.cell? ⟨g, i * 7, none⟩ = some (.int .i64 m.proto) ∧ W.cell? ⟨g, i * 7 + 1, none⟩ = some (.int .i64 m.ia) ∧ W.cell? ⟨g, i * 7 + 2, none⟩ = some (.int .i64 m.ip) ∧ W.cell? ⟨g, i * 7 + 3, none⟩ = some (.int .i64 m.port) ∧ W.cell? ⟨g, i * 7 + 4, none⟩ = some (.slice ao m.peers.length c) ∧ W.cell? ⟨g, i * 7 + 5, none⟩ = some (.int .i64 m.st) ∧ W.cell? ⟨g, i * 7 + 6, none⟩ = some (.int .i64 m.idle) ∧ m.peers.length ≤ c ∧ c ≤ maxLen ∧
    (0 < m.peers.length → ∃ pb, ao = some ⟨pb, 0, none⟩ ∧ base ≤ pb ∧ pb < W.heap.size ∧ ∀ k (h : k < m.peers.length), W.cell? ⟨pb, k, none⟩ = some (.int .i64 m.peers[k]))

theorem tabR_at {W : World} {base : Nat} {lv : Value} {ms : List Mp} (h : TabR W base lv ms) : ∃ ao cap, lv = .slice ao ms.length cap ∧ ms.length ≤ cap ∧ cap ≤ maxLen ∧
    (0 < ms.length → ∃ g, ao = some ⟨g, 0, none⟩ ∧ base ≤ g ∧ g < W.heap.size ∧ ∀ i (hi : i < ms.length), RowAt W g base i ms[i]) := by
  obtain ⟨R, rfl, hL, hP⟩ := h
  rcases hL.2 with ⟨rfl, h0⟩ | ⟨g, cap, cur, rfl, hg, hb, hc, hm, _, _⟩
  · exact ⟨Option.none, 0, by rw [h0], by omega, by unfold maxLen; omega, fun h => absurd h (by omega)⟩
  · refine ⟨_, cap, rfl, hc, hm, fun _ => ⟨g, rfl, hg, (Array.getElem?_eq_some_iff.1 hb).1, fun i hi => ?_⟩⟩
    have hi' : i < R.length := by simpa using hi
    have c : ∀ k, k < 7 → W.cell? ⟨g, i * 7 + k, none⟩ = (rowC R[i].1 R[i].2)[k]? := fun k hk => by
      rw [hL.cellAt (i * 7 + k) (by simp; omega), flat_at hi' hk]
    have e : (R.map (·.1))[i] = R[i].1 := by simp
    rw [e]
    have hrow := hP R[i] (List.getElem_mem hi')
    rcases hrow.2 with ⟨e1, h0⟩ | ⟨pb, pc, pcur, e1, hpg, hpb, hpc, hpm, _, _⟩
    · refine ⟨Option.none, 0, c 0 (by omega), c 1 (by omega), c 2 (by omega), c 3 (by omega), ?_, c 5 (by omega), c 6 (by omega), by omega, by unfold maxLen; omega, fun h => absurd h (by omega)⟩
      rw [c 4 (by omega)]
      show some R[i].2 = _
      rw [e1, h0]
    · refine ⟨_, pc, c 0 (by omega), c 1 (by omega), c 2 (by omega), c 3 (by omega), ?_, c 5 (by omega), c 6 (by omega), hpc, hpm, fun _ => ⟨pb, rfl, hpg, (Array.getElem?_eq_some_iff.1 hpb).1, fun k hk => ?_⟩⟩
      · rw [c 4 (by omega)]
        show some R[i].2 = _
        rw [e1]
      · rw [e1] at hrow
        rw [hrow.cellAt k (by omega)]
        simp [intsV, hk]

theorem RowAt.below {W W' : World} {g base i B : Nat} {m : Mp} (h : RowAt W g base i m) (hb : Below B W W') (hg : g < B) (hB : W.heap.size ≤ B) : RowAt W' g base i m := by
  obtain ⟨ao, c, h0, h1, h2, h3, h4, h5, h6, h7, h8, h9⟩ := h
  have k : ∀ {o v}, W.cell? ⟨g, o, none⟩ = some v → W'.cell? ⟨g, o, none⟩ = some v := fun h => (hb.cell (p := ⟨g, _, none⟩) hg).trans h
  refine ⟨ao, c, k h0, k h1, k h2, k h3, k h4, k h5, k h6, h7, h8, fun hp => ?_⟩
  obtain ⟨pb, rfl, a1, a2, a3⟩ := h9 hp
  exact ⟨pb, rfl, a1, Nat.lt_of_lt_of_le a2 hb.size, fun k hk => (hb.cell (p := ⟨pb, _, none⟩) (by show pb < B; omega)).trans (a3 k hk)⟩

theorem tabR_keep {W W' : World} {base : Nat} {X : Nat → Prop} {lv : Value} {ms : List Mp} (h : TabR W base lv ms) (hF : Fr X W W') (hX : ∀ k, base ≤ k → ¬ X k) : TabR W' base lv ms := by
  obtain ⟨R, hR, hL, hP⟩ := h
  exact ⟨R, hR, row_keepB hL (Nat.le_refl _) hF (fun k _ hk => hX k hk), fun y hy => row_keepB (hP y hy) (Nat.le_refl _) hF (fun k _ hk => hX k hk)⟩

end Go.Proofs.Ytgpplekabohneaa
