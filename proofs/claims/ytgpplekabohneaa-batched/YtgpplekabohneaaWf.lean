/- 'sameTable' of two tables of the same rows. -/
import Derived.Test.YtgpplekabohneaaWe
import Derived.Deep.LoopGhost
import Derived.Deep.QuietTactic
import Derived.BigQuiet
namespace Go.Proofs.Ytgpplekabohneaa
open Go.RowKit

set_option maxHeartbeats 8000000 in
set_option maxRecDepth 100000 in
theorem sameTable_any {w : World} {B1 B2 : Nat} {l1 l2 : Value} {ms : List Mp} (h1 : TabR w B1 l1 ms) (h2 : TabR w B2 l2 ms) :
    Calls Try.prog 20 #[l1, l2] w fun e w' => e = .returned (.bool true) ∧ Below w.heap.size w w' := by
  obtain ⟨a1, c1, rfl, k1, k1', R1⟩ := tabR_at h1
  obtain ⟨a2, c2, rfl, k2, k2', R2⟩ := tabR_at h2
  obtain ⟨n, hn⟩ : ∃ n, ms.length = n := ⟨_, rfl⟩
  rw [hn] at k1 k2 ⊢
  have HN := hide hn
  have HR1 := hide R1
  have HR2 := hide R2
  unfold maxLen at k1' k2'
  clear h1 h2 R1 R2 hn
  have e34 := eq34 9998
  go_enter Try.func20, Try.ntmps20
  go_wp2_with fail
  go_loopg [5] n (fun k i wr => ∃ j : Nat, j ≤ n ∧ k = n - j ∧ i = .int .i64 j ∧ Below w.heap.size w wr)
  case atStart => exact ⟨0, Nat.zero_le _, by omega, rfl, Below.refl _ _⟩
  case round =>
    obtain ⟨j, hj, hk, rfl, hb⟩ := hrel
    have HK := hide hk
    have HB := hide hb
    clear hk hb
    by_cases hlt : j < n
    · obtain ⟨g1, rfl, -, gl1, rows1⟩ := unhide HR1 (by have := unhide HN; omega)
      obtain ⟨g2, rfl, -, gl2, rows2⟩ := unhide HR2 (by have := unhide HN; omega)
      have HW1 := hide (rows1 j (by have := unhide HN; omega))
      have HW2 := hide (rows2 j (by have := unhide HN; omega))
      clear rows1 rows2
      generalize ms[j]'(by have := unhide HN; omega) = m at HW1 HW2
      obtain ⟨m0, m1, m2, m3, ps, m5, m6, m7, m8⟩ := m
      obtain ⟨ao1, pc1, a0, a1, a2, a3, a4, a5, a6, a7, a8, a9⟩ := unhide HW1
      obtain ⟨ao2, pc2, b0, b1, b2, b3, b4, b5, b6, b7, b8, b9⟩ := unhide HW2
      obtain ⟨np, hnp⟩ : ∃ np, ps.length = np := ⟨_, rfl⟩
      dsimp only at a0 a1 a2 a3 a4 a5 a6 a7 a8 a9 b0 b1 b2 b3 b4 b5 b6 b7 b8 b9
      rw [hnp] at a4 a7 b4 b7
      have HA : Hid (∀ W, Below w.heap.size w W → (W.cell? ⟨g1, j * 7, none⟩ = some (.int .i64 m0) ∧ W.cell? ⟨g1, j * 7 + 1, none⟩ = some (.int .i64 m1) ∧ W.cell? ⟨g1, j * 7 + 2, none⟩ = some (.int .i64 m2) ∧ W.cell? ⟨g1, j * 7 + 3, none⟩ = some (.int .i64 m3) ∧ W.cell? ⟨g1, j * 7 + 4, none⟩ = some (.slice ao1 np pc1) ∧ W.cell? ⟨g1, j * 7 + 5, none⟩ = some (.int .i64 m5) ∧ W.cell? ⟨g1, j * 7 + 6, none⟩ = some (.int .i64 m6)) ∧ (W.cell? ⟨g2, j * 7, none⟩ = some (.int .i64 m0) ∧ W.cell? ⟨g2, j * 7 + 1, none⟩ = some (.int .i64 m1) ∧ W.cell? ⟨g2, j * 7 + 2, none⟩ = some (.int .i64 m2) ∧ W.cell? ⟨g2, j * 7 + 3, none⟩ = some (.int .i64 m3) ∧ W.cell? ⟨g2, j * 7 + 4, none⟩ = some (.slice ao2 np pc2) ∧ W.cell? ⟨g2, j * 7 + 5, none⟩ = some (.int .i64 m5) ∧ W.cell? ⟨g2, j * 7 + 6, none⟩ = some (.int .i64 m6))) := fun W hW => by
        have k1 : ∀ {o v}, w.cell? ⟨g1, o, none⟩ = some v → W.cell? ⟨g1, o, none⟩ = some v := fun h => (hW.cell (p := ⟨g1, _, none⟩) gl1).trans h
        have k2 : ∀ {o v}, w.cell? ⟨g2, o, none⟩ = some v → W.cell? ⟨g2, o, none⟩ = some v := fun h => (hW.cell (p := ⟨g2, _, none⟩) gl2).trans h
        exact ⟨⟨k1 a0, k1 a1, k1 a2, k1 a3, k1 a4, k1 a5, k1 a6⟩, ⟨k2 b0, k2 b1, k2 b2, k2 b3, k2 b4, k2 b5, k2 b6⟩⟩
      have HP : Hid (∀ W q, Below w.heap.size w W → q < np → ∃ q1 q2 u, ao1 = some ⟨q1, 0, none⟩ ∧ ao2 = some ⟨q2, 0, none⟩ ∧ W.cell? ⟨q1, q, none⟩ = some (.int .i64 u) ∧ W.cell? ⟨q2, q, none⟩ = some (.int .i64 u)) := fun W q hW hq => by
        obtain ⟨q1, rfl, -, ql1, d1⟩ := a9 (by omega)
        obtain ⟨q2, rfl, -, ql2, d2⟩ := b9 (by omega)
        exact ⟨q1, q2, ps[q]'(by omega), rfl, rfl, (hW.cell (p := ⟨q1, _, none⟩) ql1).trans (d1 q (by omega)), (hW.cell (p := ⟨q2, _, none⟩) ql2).trans (d2 q (by omega))⟩
      unfold maxLen at a8 b8
      clear HW1 HW2 a0 a1 a2 a3 a4 a5 a6 a9 b0 b1 b2 b3 b4 b5 b6 b9 hnp
      obtain ⟨⟨a0, a1, a2, a3, a4, a5, a6⟩, b0, b1, b2, b3, b4, b5, b6⟩ := unhide HA _ (unhide HB)
      go_wp2_with fail
      dsimp only [List.append]
      go_big_quiet (fail)
      go_wp2_with fail
      clear a0 a1 a2 a3 a4 a5 a6 b0 b1 b2 b3 b4 b5 b6
      go_loopg [6] np (fun k i wr => ∃ q : Nat, q ≤ np ∧ k = np - q ∧ i = .int .i64 q ∧ Below w.heap.size w wr)
      case atStart => exact ⟨0, Nat.zero_le _, by omega, rfl, (unhide HB).trans ⟨rfl, rfl, rfl, by simp, fun _ _ => rfl⟩⟩
      case round =>
        obtain ⟨q, hq, hk2, rfl, hb2⟩ := hrel
        have HK2 := hide hk2
        obtain ⟨⟨a0, a1, a2, a3, a4, a5, a6⟩, b0, b1, b2, b3, b4, b5, b6⟩ := unhide HA _ hb2
        have HB2 := hide hb2
        clear hk2 hb2 a0 a1 a2 a3 a5 a6 b0 b1 b2 b3 b5 b6
        by_cases hlq : q < np
        · obtain ⟨q1, q2, u, rfl, rfl, u1, u2⟩ := unhide HP _ q (unhide HB2) hlq
          go_wp2_with fail
          go_quiet (fail)
          go_wp2_with fail
          go_roundg (np - (q + 1))
          case measure => have := unhide HK2; omega
          case rel => exact ⟨q + 1, by omega, rfl, by go_num, (unhide HB2).trans ⟨rfl, rfl, rfl, by simp, fun _ _ => rfl⟩⟩
        · go_wp2_with fail
          go_roundg (n - (j + 1))
          case measure => have := unhide HK; omega
          case rel => exact ⟨j + 1, by omega, rfl, by go_num, unhide HB2⟩
    · go_wp2_with fail
      go_ret
      exact ⟨rfl, unhide HB⟩

end Go.Proofs.Ytgpplekabohneaa
