/- 'usePeer', walked: an address that is none of the peers, with room or without; one that is. -/
import Derived.Test.YtkbgjbbniaflhaaPn
namespace Go.Proofs.Ytkbgjbbniaflhaa
open Go.RowKit

theorem grown_fr {w w' : World} {sv : Value} {g : Nat} (h : (sv.ownBlock = some g ∧ w.grownBy w' (some g)) ∨ (g = w.heap.size ∧ w.grownBy w' none)) : Fr (fun k => sv.ownBlock = some k) w w' := by
  rcases h with ⟨h1, h2⟩ | ⟨_, h2⟩
  · exact Fr.of_grown h2 (fun k hk _ => by cases hk; exact h1)
  · exact Fr.of_grown h2 (fun k hk _ => by cases hk)

/-- behind the append: the store of the new list -/
theorem used_app {w w3 : World} {g g2 cap2 n : Nat} {sv : Value} {m : Mp} {l : List Int} {o : Obj} (hM : Mem w g sv m) (hn : n = l.length) (hO3 : w3.ownsRow 0 3 1 (.slice (some ⟨g2, 0, none⟩) n cap2) n (intsV l))
    (hG3 : (sv.ownBlock = some g2 ∧ (w.alloc o).grownBy w3 (some g2)) ∨ (g2 = (w.alloc o).heap.size ∧ (w.alloc o).grownBy w3 none)) :
    w3.heap[g]? = some (.cells (mpC m sv) 105 (0, 0)) ∧ UsedS w g sv m l (w3.setCell ⟨g, 4, none⟩ (.slice (some ⟨g2, 0, none⟩) n cap2)) (.slice (some ⟨g2, 0, none⟩) n cap2) := by
  subst hn
  have hlt := hM.cells.1
  have hne := row_ne hM.2 hM.1 (by decide)
  have hF : Fr (fun k => sv.ownBlock = some k) w w3 := ((Fr.refl _ w).alloc o).trans (grown_fr hG3)
  have h3 : w3.heap[g]? = some (.cells (mpC m sv) 105 (0, 0)) := hF.some hM.1 hne
  refine ⟨h3, memStore h3 hO3, ?_, g2, rfl, ?_⟩
  · exact (hF.mono (fun k hk _ => Or.inr hk)).setCell _ (fun _ => Or.inl rfl)
  · rcases hG3 with ⟨h1, _⟩ | ⟨h1, _⟩
    · exact .inl h1
    · right; rw [h1]; simp

/-- behind the deletion: the store of the new list -/
theorem used_del {w w1 : World} {g b n cap : Nat} {m : Mp} {l : List Int} {n' : Nat} (hM : Mem w g (.slice (some ⟨b, 0, none⟩) n cap) m) (hn : n' = l.length) (hO : w1.ownsRow 0 3 1 (.slice (some ⟨b, 0, none⟩) n' cap) n' (intsV l))
    (hF : Fr (fun k => k = b) w w1) :
    w1.heap[g]? = some (.cells (mpC m (.slice (some ⟨b, 0, none⟩) n cap)) 105 (0, 0)) ∧ UsedS w g (.slice (some ⟨b, 0, none⟩) n cap) m l (w1.setCell ⟨g, 4, none⟩ (.slice (some ⟨b, 0, none⟩) n' cap)) (.slice (some ⟨b, 0, none⟩) n' cap) := by
  subst hn
  have hne := row_ne hM.2 hM.1 (by decide)
  have h3 : w1.heap[g]? = some (.cells (mpC m (.slice (some ⟨b, 0, none⟩) n cap)) 105 (0, 0)) := hF.some hM.1 (fun e => hne (by rw [e]; rfl))
  refine ⟨h3, memStore h3 hO, ?_, b, rfl, .inl rfl⟩
  exact (hF.mono (fun k hk _ => Or.inr (by rw [hk]; rfl))).setCell _ (fun _ => Or.inl rfl)

set_option maxHeartbeats 1000000 in
set_option maxRecDepth 100000 in
theorem usePeer_new (g : Nat) (sv : Value) (m : Mp) (addr : Int) (w : World) (hM : Mem w g sv m) (hlen : m.peers.length < 4) (hc : m.peers.contains addr = false) :
    Calls Try.prog 62 #[.pointer (some ⟨g, 0, none⟩), .int .i64 addr] w fun e w' => e = .returned (.tuple #[]) ∧ Used w g sv m (m.peers ++ [addr]) w' := by
  obtain ⟨i0, hi, hz0, hz1, hz2⟩ := info_parts info3
  have HI := hide (And.intro hi (And.intro hz0 (And.intro hz1 hz2)))
  clear hi hz0 hz1 hz2
  have hidx := hide (index_any sv m.peers addr w hM.2)
  obtain ⟨hlt, -, -, -, -, c4, -, -, -, -, z⟩ := hM.cells
  have HM := hide hM
  have he : idxF m.peers addr = -1 := by unfold idxF; rw [hc]; rfl
  rw [he] at hidx
  clear hM he hc
  generalize hn : m.peers.length = n at *
  have HN := hide hn
  clear hn
  go_enter Try.func62, Try.ntmps62
  go_wp2_with (first | (go_at_call 78; refine (unhide hidx).mono ?_; rintro e w' ⟨rfl, hw⟩; symm at hw; subst hw; clear hidx) | (at_builtin; go_loud (refine wpList_append_x _ rfl _ _ 50 rfl 0 3 i0 (.int .i64 0) 1 8 Try.underlying50 (unhide HI).1 (unhide HI).2.1 (unhide HI).2.2.1 (unhide HI).2.2.2 rfl (by decide) sv n (intsV m.peers) rfl (by rw [← unhide HN]; exact (unhide HM).2.alloc _) ⟨w.heap.size, 0, none⟩ 1 1 [.int .i64 addr] rfl rfl (World.news_of_block (by exact blkN w _ _ rfl)) (by simp [Value.oneCell']) (by omega) (by unfold maxLen; omega) (by omega) (Nat.zero_le _) ?_; intro g2 cap2 w3 hO3 hG3; have hst := hide (used_app (n := n + 1) (l := m.peers ++ [addr]) (unhide HM) (by rw [List.length_append, unhide HN, List.length_singleton]) (by simpa [intsV] using hO3) hG3); have c4' : w3.cell? ⟨g, 4, none⟩ = some sv := (by simp [World.cell?, (unhide hst).1, mpC]); have z' : ∀ o, w3.frozen? ⟨g, o, none⟩ = false := (by intro o; simp [World.frozen?, (unhide hst).1]); clear hO3 hG3)))
  go_end0
  exact ⟨rfl, _, (unhide hst).2⟩

set_option maxHeartbeats 1000000 in
set_option maxRecDepth 100000 in
theorem usePeer_full (g : Nat) (sv : Value) (m : Mp) (addr : Int) (w : World) (hM : Mem w g sv m) (hlen : m.peers.length = 4) (hc : m.peers.contains addr = false) :
    Calls Try.prog 62 #[.pointer (some ⟨g, 0, none⟩), .int .i64 addr] w fun e w' => e = .returned (.tuple #[]) ∧ Used w g sv m ((m.peers ++ [addr]).eraseIdx 0) w' := by
  obtain ⟨i0, hi, hz0, hz1, hz2⟩ := info_parts info3
  have HI := hide (And.intro hi (And.intro hz0 (And.intro hz1 hz2)))
  clear hi hz0 hz1 hz2
  have hidx := hide (index_any sv m.peers addr w hM.2)
  obtain ⟨hlt, -, -, -, -, c4, -, -, -, -, z⟩ := hM.cells
  have HM := hide hM
  have he : idxF m.peers addr = -1 := by unfold idxF; rw [hc]; rfl
  rw [he] at hidx
  clear hM he hc
  have HN := hide hlen
  clear hlen
  go_enter Try.func62, Try.ntmps62
  go_wp2_with (first | (go_at_call 78; refine (unhide hidx).mono ?_; rintro e w' ⟨rfl, hw⟩; symm at hw; subst hw; clear hidx) | (at_builtin; go_loud (refine wpList_append_x _ rfl _ _ 50 rfl 0 3 i0 (.int .i64 0) 1 8 Try.underlying50 (unhide HI).1 (unhide HI).2.1 (unhide HI).2.2.1 (unhide HI).2.2.2 rfl (by decide) sv 4 (intsV m.peers) rfl (by rw [← unhide HN]; exact (unhide HM).2.alloc _) ⟨w.heap.size, 0, none⟩ 1 1 [.int .i64 addr] rfl rfl (World.news_of_block (by exact blkN w _ _ rfl)) (by simp [Value.oneCell']) (by omega) (by unfold maxLen; omega) (by omega) (Nat.zero_le _) ?_; intro g2 cap2 w3 hO3 hG3; have hst := hide (used_app (n := 5) (l := m.peers ++ [addr]) (unhide HM) (by rw [List.length_append, unhide HN, List.length_singleton]) (by simpa [intsV] using hO3) hG3); have c4' : w3.cell? ⟨g, 4, none⟩ = some sv := (by simp [World.cell?, (unhide hst).1, mpC]); have z' : ∀ o, w3.frozen? ⟨g, o, none⟩ = false := (by intro o; simp [World.frozen?, (unhide hst).1]); clear hO3 hG3)) | (go_at_call 79; go_loud (refine (show Calls _ _ _ _ _ from (by simpa using delete_any g2 5 cap2 0 (m.peers ++ [addr]) _ (by have := (unhide hst).2.1.2; simpa [unhide HN] using this) (by omega))).mono ?_; rintro e w5 ⟨rfl, hO5, hF5, hS5⟩; have hsd := hide (used_del (n' := 4) (l := (m.peers ++ [addr]).eraseIdx 0) (unhide hst).2.1 (by rw [List.length_eraseIdx, List.length_append, unhide HN, List.length_singleton]; rfl) (by simpa using hO5) hF5); have c4'' : w5.cell? ⟨g, 4, none⟩ = some (.slice (some ⟨g2, 0, none⟩) 5 cap2) := (by simp [World.cell?, (unhide hsd).1, mpC]); have z'' : ∀ o, w5.frozen? ⟨g, o, none⟩ = false := (by intro o; simp [World.frozen?, (unhide hsd).1]); clear hO5 hF5 hS5)))
  go_end0
  exact ⟨rfl, _, (unhide hst).2.trans (unhide hsd).2⟩

end Go.Proofs.Ytkbgjbbniaflhaa
