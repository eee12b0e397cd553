/- 'marks' of the document. -/
import Derived.Test.YtgpplekabohneaaXa
namespace Go.Proofs.Ytgpplekabohneaa
open Go.RowKit

set_option maxHeartbeats 4000000 in
set_option maxRecDepth 100000 in
theorem rmarks_any (g t : Nat) (m : Mp) (sv : Value) (p : Pk) (w : World) (h : w.heap[g]? = some (.cells (refC t m sv) 140 (0, 0))) (h2 : m.proto = 2) :
    Calls Try.prog 115 #[.pointer (some ⟨g, 0, none⟩), .agg (pkC p)] w fun e w' => e = .returned (.tuple #[]) ∧ w'.heap[g]? = some (.cells (refC t (rmarksF m p.out p.syn p.fin p.rst) sv) 140 (0, 0)) ∧ Fr (fun k => k = g) w w' := by
  obtain ⟨tag, proto, out, sa, sp, da, dp, syn, fin, rst, err, qsa, qsp, qda, qdp⟩ := p
  obtain ⟨mp, ia, ip, port, peers, st, idle, fo, fi⟩ := m
  dsimp only at h2
  subst h2
  obtain ⟨c0, c1, c2, c3, c4, c5, c6, c7, c8, c9, fz, hg⟩ := ref_cells h
  have f6 := fz 6
  have f8 := fz 8
  have f9 := fz 9
  have HA := hide h
  unfold pkC
  dsimp only at c0 c1 c2 c3 c4 c5 c6 c7 c8 c9 ⊢
  clear h fz
  cases out
  · by_cases h1 : st = 1
    · subst h1
      cases fin
      · cases fo
        · cases rst
          · skip
            have hm : rmarksF ⟨2, ia, ip, port, peers, 1, idle, false, fi⟩ false syn false false = ⟨2, ia, ip, port, peers, 2, idle, false, fi⟩ := by simp [rmarksF]
            rw [hm]
            clear hm
            go_enter Try.func115, Try.ntmps115
            go_wp2
            go_end0
            exact ⟨rfl, (Below.heap_alloc _ _ g (by simpa using hg)).trans (setB (unhide HA) _ _), ((Fr.refl (fun k => k = g) w).setG).alloc _⟩
          · skip
            have hm : rmarksF ⟨2, ia, ip, port, peers, 1, idle, false, fi⟩ false syn false true = ⟨2, ia, ip, port, peers, 3, idle, false, fi⟩ := by simp [rmarksF]
            rw [hm]
            clear hm
            go_enter Try.func115, Try.ntmps115
            go_wp2
            go_end0
            exact ⟨rfl, (Below.heap_alloc _ _ g (by simpa using hg)).trans (setB (setB (unhide HA) _ _) _ _), (((Fr.refl (fun k => k = g) w).setG).setG).alloc _⟩
        · cases fi
          · cases rst
            · skip
              have hm : rmarksF ⟨2, ia, ip, port, peers, 1, idle, true, false⟩ false syn false false = ⟨2, ia, ip, port, peers, 2, idle, true, false⟩ := by simp [rmarksF]
              rw [hm]
              clear hm
              go_enter Try.func115, Try.ntmps115
              go_wp2
              go_end0
              exact ⟨rfl, (Below.heap_alloc _ _ g (by simpa using hg)).trans (setB (unhide HA) _ _), ((Fr.refl (fun k => k = g) w).setG).alloc _⟩
            · skip
              have hm : rmarksF ⟨2, ia, ip, port, peers, 1, idle, true, false⟩ false syn false true = ⟨2, ia, ip, port, peers, 3, idle, true, false⟩ := by simp [rmarksF]
              rw [hm]
              clear hm
              go_enter Try.func115, Try.ntmps115
              go_wp2
              go_end0
              exact ⟨rfl, (Below.heap_alloc _ _ g (by simpa using hg)).trans (setB (setB (unhide HA) _ _) _ _), (((Fr.refl (fun k => k = g) w).setG).setG).alloc _⟩
          · skip
            have hm : rmarksF ⟨2, ia, ip, port, peers, 1, idle, true, true⟩ false syn false rst = ⟨2, ia, ip, port, peers, 3, idle, true, true⟩ := by simp [rmarksF]
            rw [hm]
            clear hm
            go_enter Try.func115, Try.ntmps115
            go_wp2
            go_end0
            exact ⟨rfl, (Below.heap_alloc _ _ g (by simpa using hg)).trans (setB (setB (unhide HA) _ _) _ _), (((Fr.refl (fun k => k = g) w).setG).setG).alloc _⟩
      · skip
        cases fo
        · cases rst
          · skip
            have hm : rmarksF ⟨2, ia, ip, port, peers, 1, idle, false, fi⟩ false syn true false = ⟨2, ia, ip, port, peers, 2, idle, false, true⟩ := by simp [rmarksF]
            rw [hm]
            clear hm
            go_enter Try.func115, Try.ntmps115
            go_wp2
            go_end0
            exact ⟨rfl, (Below.heap_alloc _ _ g (by simpa using hg)).trans (setB (setB (unhide HA) _ _) _ _), (((Fr.refl (fun k => k = g) w).setG).setG).alloc _⟩
          · skip
            have hm : rmarksF ⟨2, ia, ip, port, peers, 1, idle, false, fi⟩ false syn true true = ⟨2, ia, ip, port, peers, 3, idle, false, true⟩ := by simp [rmarksF]
            rw [hm]
            clear hm
            go_enter Try.func115, Try.ntmps115
            go_wp2
            go_end0
            exact ⟨rfl, (Below.heap_alloc _ _ g (by simpa using hg)).trans (setB (setB (setB (unhide HA) _ _) _ _) _ _), ((((Fr.refl (fun k => k = g) w).setG).setG).setG).alloc _⟩
        · skip
          have hm : rmarksF ⟨2, ia, ip, port, peers, 1, idle, true, fi⟩ false syn true rst = ⟨2, ia, ip, port, peers, 3, idle, true, true⟩ := by simp [rmarksF]
          rw [hm]
          clear hm
          go_enter Try.func115, Try.ntmps115
          go_wp2
          go_end0
          exact ⟨rfl, (Below.heap_alloc _ _ g (by simpa using hg)).trans (setB (setB (setB (unhide HA) _ _) _ _) _ _), ((((Fr.refl (fun k => k = g) w).setG).setG).setG).alloc _⟩
    · have b1 : (st == 1) = false := by simpa using h1
      cases fin
      · cases fo
        · cases rst
          · skip
            have hm : rmarksF ⟨2, ia, ip, port, peers, st, idle, false, fi⟩ false syn false false = ⟨2, ia, ip, port, peers, st, idle, false, fi⟩ := by simp [rmarksF, h1]
            rw [hm]
            clear hm
            go_enter Try.func115, Try.ntmps115
            go_wp2
            go_end0
            exact ⟨rfl, (Below.heap_alloc _ _ g (by simpa using hg)).trans (unhide HA), (Fr.refl (fun k => k = g) w).alloc _⟩
          · skip
            have hm : rmarksF ⟨2, ia, ip, port, peers, st, idle, false, fi⟩ false syn false true = ⟨2, ia, ip, port, peers, 3, idle, false, fi⟩ := by simp [rmarksF, h1]
            rw [hm]
            clear hm
            go_enter Try.func115, Try.ntmps115
            go_wp2
            go_end0
            exact ⟨rfl, (Below.heap_alloc _ _ g (by simpa using hg)).trans (setB (unhide HA) _ _), ((Fr.refl (fun k => k = g) w).setG).alloc _⟩
        · cases fi
          · cases rst
            · skip
              have hm : rmarksF ⟨2, ia, ip, port, peers, st, idle, true, false⟩ false syn false false = ⟨2, ia, ip, port, peers, st, idle, true, false⟩ := by simp [rmarksF, h1]
              rw [hm]
              clear hm
              go_enter Try.func115, Try.ntmps115
              go_wp2
              go_end0
              exact ⟨rfl, (Below.heap_alloc _ _ g (by simpa using hg)).trans (unhide HA), (Fr.refl (fun k => k = g) w).alloc _⟩
            · skip
              have hm : rmarksF ⟨2, ia, ip, port, peers, st, idle, true, false⟩ false syn false true = ⟨2, ia, ip, port, peers, 3, idle, true, false⟩ := by simp [rmarksF, h1]
              rw [hm]
              clear hm
              go_enter Try.func115, Try.ntmps115
              go_wp2
              go_end0
              exact ⟨rfl, (Below.heap_alloc _ _ g (by simpa using hg)).trans (setB (unhide HA) _ _), ((Fr.refl (fun k => k = g) w).setG).alloc _⟩
          · skip
            have hm : rmarksF ⟨2, ia, ip, port, peers, st, idle, true, true⟩ false syn false rst = ⟨2, ia, ip, port, peers, 3, idle, true, true⟩ := by simp [rmarksF, h1]
            rw [hm]
            clear hm
            go_enter Try.func115, Try.ntmps115
            go_wp2
            go_end0
            exact ⟨rfl, (Below.heap_alloc _ _ g (by simpa using hg)).trans (setB (unhide HA) _ _), ((Fr.refl (fun k => k = g) w).setG).alloc _⟩
      · skip
        cases fo
        · cases rst
          · skip
            have hm : rmarksF ⟨2, ia, ip, port, peers, st, idle, false, fi⟩ false syn true false = ⟨2, ia, ip, port, peers, st, idle, false, true⟩ := by simp [rmarksF, h1]
            rw [hm]
            clear hm
            go_enter Try.func115, Try.ntmps115
            go_wp2
            go_end0
            exact ⟨rfl, (Below.heap_alloc _ _ g (by simpa using hg)).trans (setB (unhide HA) _ _), ((Fr.refl (fun k => k = g) w).setG).alloc _⟩
          · skip
            have hm : rmarksF ⟨2, ia, ip, port, peers, st, idle, false, fi⟩ false syn true true = ⟨2, ia, ip, port, peers, 3, idle, false, true⟩ := by simp [rmarksF, h1]
            rw [hm]
            clear hm
            go_enter Try.func115, Try.ntmps115
            go_wp2
            go_end0
            exact ⟨rfl, (Below.heap_alloc _ _ g (by simpa using hg)).trans (setB (setB (unhide HA) _ _) _ _), (((Fr.refl (fun k => k = g) w).setG).setG).alloc _⟩
        · skip
          have hm : rmarksF ⟨2, ia, ip, port, peers, st, idle, true, fi⟩ false syn true rst = ⟨2, ia, ip, port, peers, 3, idle, true, true⟩ := by simp [rmarksF, h1]
          rw [hm]
          clear hm
          go_enter Try.func115, Try.ntmps115
          go_wp2
          go_end0
          exact ⟨rfl, (Below.heap_alloc _ _ g (by simpa using hg)).trans (setB (setB (unhide HA) _ _) _ _), (((Fr.refl (fun k => k = g) w).setG).setG).alloc _⟩
  · cases syn
    · skip
      cases fin
      · cases fo
        · cases rst
          · skip
            have hm : rmarksF ⟨2, ia, ip, port, peers, st, idle, false, fi⟩ true false false false = ⟨2, ia, ip, port, peers, st, idle, false, fi⟩ := by simp [rmarksF]
            rw [hm]
            clear hm
            go_enter Try.func115, Try.ntmps115
            go_wp2
            go_end0
            exact ⟨rfl, (Below.heap_alloc _ _ g (by simpa using hg)).trans (unhide HA), (Fr.refl (fun k => k = g) w).alloc _⟩
          · skip
            have hm : rmarksF ⟨2, ia, ip, port, peers, st, idle, false, fi⟩ true false false true = ⟨2, ia, ip, port, peers, 3, idle, false, fi⟩ := by simp [rmarksF]
            rw [hm]
            clear hm
            go_enter Try.func115, Try.ntmps115
            go_wp2
            go_end0
            exact ⟨rfl, (Below.heap_alloc _ _ g (by simpa using hg)).trans (setB (unhide HA) _ _), ((Fr.refl (fun k => k = g) w).setG).alloc _⟩
        · cases fi
          · cases rst
            · skip
              have hm : rmarksF ⟨2, ia, ip, port, peers, st, idle, true, false⟩ true false false false = ⟨2, ia, ip, port, peers, st, idle, true, false⟩ := by simp [rmarksF]
              rw [hm]
              clear hm
              go_enter Try.func115, Try.ntmps115
              go_wp2
              go_end0
              exact ⟨rfl, (Below.heap_alloc _ _ g (by simpa using hg)).trans (unhide HA), (Fr.refl (fun k => k = g) w).alloc _⟩
            · skip
              have hm : rmarksF ⟨2, ia, ip, port, peers, st, idle, true, false⟩ true false false true = ⟨2, ia, ip, port, peers, 3, idle, true, false⟩ := by simp [rmarksF]
              rw [hm]
              clear hm
              go_enter Try.func115, Try.ntmps115
              go_wp2
              go_end0
              exact ⟨rfl, (Below.heap_alloc _ _ g (by simpa using hg)).trans (setB (unhide HA) _ _), ((Fr.refl (fun k => k = g) w).setG).alloc _⟩
          · skip
            have hm : rmarksF ⟨2, ia, ip, port, peers, st, idle, true, true⟩ true false false rst = ⟨2, ia, ip, port, peers, 3, idle, true, true⟩ := by simp [rmarksF]
            rw [hm]
            clear hm
            go_enter Try.func115, Try.ntmps115
            go_wp2
            go_end0
            exact ⟨rfl, (Below.heap_alloc _ _ g (by simpa using hg)).trans (setB (unhide HA) _ _), ((Fr.refl (fun k => k = g) w).setG).alloc _⟩
      · skip
        cases fi
        · cases rst
          · skip
            have hm : rmarksF ⟨2, ia, ip, port, peers, st, idle, fo, false⟩ true false true false = ⟨2, ia, ip, port, peers, st, idle, true, false⟩ := by simp [rmarksF]
            rw [hm]
            clear hm
            go_enter Try.func115, Try.ntmps115
            go_wp2
            go_end0
            exact ⟨rfl, (Below.heap_alloc _ _ g (by simpa using hg)).trans (setB (unhide HA) _ _), ((Fr.refl (fun k => k = g) w).setG).alloc _⟩
          · skip
            have hm : rmarksF ⟨2, ia, ip, port, peers, st, idle, fo, false⟩ true false true true = ⟨2, ia, ip, port, peers, 3, idle, true, false⟩ := by simp [rmarksF]
            rw [hm]
            clear hm
            go_enter Try.func115, Try.ntmps115
            go_wp2
            go_end0
            exact ⟨rfl, (Below.heap_alloc _ _ g (by simpa using hg)).trans (setB (setB (unhide HA) _ _) _ _), (((Fr.refl (fun k => k = g) w).setG).setG).alloc _⟩
        · skip
          have hm : rmarksF ⟨2, ia, ip, port, peers, st, idle, fo, true⟩ true false true rst = ⟨2, ia, ip, port, peers, 3, idle, true, true⟩ := by simp [rmarksF]
          rw [hm]
          clear hm
          go_enter Try.func115, Try.ntmps115
          go_wp2
          go_end0
          exact ⟨rfl, (Below.heap_alloc _ _ g (by simpa using hg)).trans (setB (setB (unhide HA) _ _) _ _), (((Fr.refl (fun k => k = g) w).setG).setG).alloc _⟩
    · by_cases h3 : st = 3
      · subst h3
        cases fin
        · cases rst
          · skip
            have hm : rmarksF ⟨2, ia, ip, port, peers, 3, idle, fo, fi⟩ true true false false = ⟨2, ia, ip, port, peers, 1, idle, false, false⟩ := by simp [rmarksF]
            rw [hm]
            clear hm
            go_enter Try.func115, Try.ntmps115
            go_wp2
            go_end0
            exact ⟨rfl, (Below.heap_alloc _ _ g (by simpa using hg)).trans (setB (setB (setB (unhide HA) _ _) _ _) _ _), ((((Fr.refl (fun k => k = g) w).setG).setG).setG).alloc _⟩
          · skip
            have hm : rmarksF ⟨2, ia, ip, port, peers, 3, idle, fo, fi⟩ true true false true = ⟨2, ia, ip, port, peers, 3, idle, false, false⟩ := by simp [rmarksF]
            rw [hm]
            clear hm
            go_enter Try.func115, Try.ntmps115
            go_wp2
            go_end0
            exact ⟨rfl, (Below.heap_alloc _ _ g (by simpa using hg)).trans (setB (setB (setB (setB (unhide HA) _ _) _ _) _ _) _ _), (((((Fr.refl (fun k => k = g) w).setG).setG).setG).setG).alloc _⟩
        · cases rst
          · skip
            have hm : rmarksF ⟨2, ia, ip, port, peers, 3, idle, fo, fi⟩ true true true false = ⟨2, ia, ip, port, peers, 1, idle, true, false⟩ := by simp [rmarksF]
            rw [hm]
            clear hm
            have h8 : ∀ X, (((((w.setCell ⟨g, 6, none⟩ (.int .i64 1)).setCell ⟨g, 8, none⟩ (.bool false)).setCell ⟨g, 9, none⟩ (.bool false)).setCell ⟨g, 8, none⟩ (.bool true)).alloc X).cell? ⟨g, 8, none⟩ = some (.bool true) := fun X => cellOf (blkA (setB (setB (setB (setB (unhide HA) _ _) _ _) _ _) _ _)) 8
            have h9 : ∀ X, (((((w.setCell ⟨g, 6, none⟩ (.int .i64 1)).setCell ⟨g, 8, none⟩ (.bool false)).setCell ⟨g, 9, none⟩ (.bool false)).setCell ⟨g, 8, none⟩ (.bool true)).alloc X).cell? ⟨g, 9, none⟩ = some (.bool false) := fun X => cellOf (blkA (setB (setB (setB (setB (unhide HA) _ _) _ _) _ _) _ _)) 9
            go_enter Try.func115, Try.ntmps115
            go_wp2
            go_end0
            exact ⟨rfl, (Below.heap_alloc _ _ g (by simpa using hg)).trans (setB (setB (setB (setB (unhide HA) _ _) _ _) _ _) _ _), (((((Fr.refl (fun k => k = g) w).setG).setG).setG).setG).alloc _⟩
          · skip
            have hm : rmarksF ⟨2, ia, ip, port, peers, 3, idle, fo, fi⟩ true true true true = ⟨2, ia, ip, port, peers, 3, idle, true, false⟩ := by simp [rmarksF]
            rw [hm]
            clear hm
            have h8 : ∀ X, (((((w.setCell ⟨g, 6, none⟩ (.int .i64 1)).setCell ⟨g, 8, none⟩ (.bool false)).setCell ⟨g, 9, none⟩ (.bool false)).setCell ⟨g, 8, none⟩ (.bool true)).alloc X).cell? ⟨g, 8, none⟩ = some (.bool true) := fun X => cellOf (blkA (setB (setB (setB (setB (unhide HA) _ _) _ _) _ _) _ _)) 8
            have h9 : ∀ X, (((((w.setCell ⟨g, 6, none⟩ (.int .i64 1)).setCell ⟨g, 8, none⟩ (.bool false)).setCell ⟨g, 9, none⟩ (.bool false)).setCell ⟨g, 8, none⟩ (.bool true)).alloc X).cell? ⟨g, 9, none⟩ = some (.bool false) := fun X => cellOf (blkA (setB (setB (setB (setB (unhide HA) _ _) _ _) _ _) _ _)) 9
            go_enter Try.func115, Try.ntmps115
            go_wp2
            go_end0
            exact ⟨rfl, (Below.heap_alloc _ _ g (by simpa using hg)).trans (setB (setB (setB (setB (setB (unhide HA) _ _) _ _) _ _) _ _) _ _), ((((((Fr.refl (fun k => k = g) w).setG).setG).setG).setG).setG).alloc _⟩
      · have b3 : (st == 3) = false := by simpa using h3
        cases fin
        · cases fo
          · cases rst
            · skip
              have hm : rmarksF ⟨2, ia, ip, port, peers, st, idle, false, fi⟩ true true false false = ⟨2, ia, ip, port, peers, st, idle, false, fi⟩ := by simp [rmarksF, h3]
              rw [hm]
              clear hm
              go_enter Try.func115, Try.ntmps115
              go_wp2
              go_end0
              exact ⟨rfl, (Below.heap_alloc _ _ g (by simpa using hg)).trans (unhide HA), (Fr.refl (fun k => k = g) w).alloc _⟩
            · skip
              have hm : rmarksF ⟨2, ia, ip, port, peers, st, idle, false, fi⟩ true true false true = ⟨2, ia, ip, port, peers, 3, idle, false, fi⟩ := by simp [rmarksF, h3]
              rw [hm]
              clear hm
              go_enter Try.func115, Try.ntmps115
              go_wp2
              go_end0
              exact ⟨rfl, (Below.heap_alloc _ _ g (by simpa using hg)).trans (setB (unhide HA) _ _), ((Fr.refl (fun k => k = g) w).setG).alloc _⟩
          · cases fi
            · cases rst
              · skip
                have hm : rmarksF ⟨2, ia, ip, port, peers, st, idle, true, false⟩ true true false false = ⟨2, ia, ip, port, peers, st, idle, true, false⟩ := by simp [rmarksF, h3]
                rw [hm]
                clear hm
                go_enter Try.func115, Try.ntmps115
                go_wp2
                go_end0
                exact ⟨rfl, (Below.heap_alloc _ _ g (by simpa using hg)).trans (unhide HA), (Fr.refl (fun k => k = g) w).alloc _⟩
              · skip
                have hm : rmarksF ⟨2, ia, ip, port, peers, st, idle, true, false⟩ true true false true = ⟨2, ia, ip, port, peers, 3, idle, true, false⟩ := by simp [rmarksF, h3]
                rw [hm]
                clear hm
                go_enter Try.func115, Try.ntmps115
                go_wp2
                go_end0
                exact ⟨rfl, (Below.heap_alloc _ _ g (by simpa using hg)).trans (setB (unhide HA) _ _), ((Fr.refl (fun k => k = g) w).setG).alloc _⟩
            · skip
              have hm : rmarksF ⟨2, ia, ip, port, peers, st, idle, true, true⟩ true true false rst = ⟨2, ia, ip, port, peers, 3, idle, true, true⟩ := by simp [rmarksF, h3]
              rw [hm]
              clear hm
              go_enter Try.func115, Try.ntmps115
              go_wp2
              go_end0
              exact ⟨rfl, (Below.heap_alloc _ _ g (by simpa using hg)).trans (setB (unhide HA) _ _), ((Fr.refl (fun k => k = g) w).setG).alloc _⟩
        · skip
          cases fi
          · cases rst
            · skip
              have hm : rmarksF ⟨2, ia, ip, port, peers, st, idle, fo, false⟩ true true true false = ⟨2, ia, ip, port, peers, st, idle, true, false⟩ := by simp [rmarksF, h3]
              rw [hm]
              clear hm
              go_enter Try.func115, Try.ntmps115
              go_wp2
              go_end0
              exact ⟨rfl, (Below.heap_alloc _ _ g (by simpa using hg)).trans (setB (unhide HA) _ _), ((Fr.refl (fun k => k = g) w).setG).alloc _⟩
            · skip
              have hm : rmarksF ⟨2, ia, ip, port, peers, st, idle, fo, false⟩ true true true true = ⟨2, ia, ip, port, peers, 3, idle, true, false⟩ := by simp [rmarksF, h3]
              rw [hm]
              clear hm
              go_enter Try.func115, Try.ntmps115
              go_wp2
              go_end0
              exact ⟨rfl, (Below.heap_alloc _ _ g (by simpa using hg)).trans (setB (setB (unhide HA) _ _) _ _), (((Fr.refl (fun k => k = g) w).setG).setG).alloc _⟩
          · skip
            have hm : rmarksF ⟨2, ia, ip, port, peers, st, idle, fo, true⟩ true true true rst = ⟨2, ia, ip, port, peers, 3, idle, true, true⟩ := by simp [rmarksF, h3]
            rw [hm]
            clear hm
            go_enter Try.func115, Try.ntmps115
            go_wp2
            go_end0
            exact ⟨rfl, (Below.heap_alloc _ _ g (by simpa using hg)).trans (setB (setB (unhide HA) _ _) _ _), (((Fr.refl (fun k => k = g) w).setG).setG).alloc _⟩

end Go.Proofs.Ytgpplekabohneaa
