/- 'mappingFor': a new mapping. -/
import Derived.Test.YtkbgjbbniaflhaaQf
namespace Go.Proofs.Ytkbgjbbniaflhaa
open Go.RowKit
open Go.ChangeMaps (setBlock)

/-- what mappingFor leaves where it makes a mapping -/
def Made (w : World) (S : Nat → Prop) (g hp hi : Nat) (T : Tn) (L : List Cl) (m : Mp) (n : Nat) (w' : World) : Prop :=
  TenR w' (fun k => S k ∨ k = n) g hp hi { T with maps := T.maps ++ [m] } (L ++ [⟨n, .slice none 0 0, m⟩]) ∧ Fr S w w' ∧ w.heap.size ≤ n ∧ n < w'.heap.size

set_option maxHeartbeats 1000000 in
theorem mappingFor_new {w : World} {S : Nat → Prop} {g hp hi : Nat} {T : Tn} {L : List Cl} (h : TenR w S g hp hi T L) (p : Pk) (hpr : 1 ≤ p.proto ∧ p.proto ≤ 3) (hf : T.maps.find? (isI p.proto p.sa p.sp) = none) (h2 : (p.proto == 2 && !p.syn) = false) (q : Int) (hq : freeF T.maps p.proto (T.high + 1 - T.low).toNat T.low = some q) :
    Calls Try.prog 61 #[.pointer (some ⟨g, 0, none⟩), .agg (pkC p)] w fun e w' => ∃ n, e = .returned (.tuple #[.pointer (some ⟨n, 0, none⟩), .int .i64 0]) ∧ Made w S g hp hi T L (newM p.proto p.sa p.sp q) n w' := by
  obtain ⟨l1, -, -, -, -, c4⟩ := h.cells
  have hB1 : Below w.heap.size w (w.alloc (.cells (pkC p) 38)).drew := ((Below.refl _ _).alloc (Nat.le_refl _) (.cells (pkC p) 38)).drew
  have hN := h.new hB1
  have hl := hN.lookI_none hf
  have HF := hide (freePort_any hN p.proto)
  rw [hq] at HF
  unfold freeV at HF
  obtain ⟨q1, q2, q3⟩ := freeF_some hq
  have hle := h.good.le
  have hok : okM T (newM p.proto p.sa p.sp q) := ⟨hpr.1, hpr.2, q1, by show q ≤ T.high; omega, by simp [newM], by simp [newM], by simp [newM]⟩
  have HA : Hid (∀ w2, Below (w.alloc (.cells (pkC p) 38)).drew.heap.size (w.alloc (.cells (pkC p) 38)).drew w2 → w2.heap.size = w.heap.size + 3 → w2.heap[w.heap.size + 2]? = some (.cells (mpC (newM p.proto p.sa p.sp q) (.slice none 0 0)) 105 (0, 0)) →
      Calls Try.prog 77 #[.pointer (some ⟨g, 0, none⟩), .pointer (some ⟨w.heap.size + 2, 0, none⟩)] w2 fun e w' => e = .returned (.tuple #[]) ∧ Made w S g hp hi T L (newM p.proto p.sa p.sp q) (w.heap.size + 2) w') := by
    intro w2 hb2 hs2 hn2
    have hT2 := hN.new hb2
    refine (add_any hT2 hn2 rfl (fun hS => by have := h.bound _ hS; omega) hok q3 hf).mono ?_
    rintro e w' ⟨rfl, k1, k2, k3⟩
    refine ⟨rfl, k1, ?_, by omega, by omega⟩
    exact (Fr.of_below (hB1.trans (hb2.mono (by simp)))).trans k2
  obtain ⟨tag, proto, out, sa, sp, da, dp, syn, fin, rst, err, qsa, qsp, qda, qdp⟩ := p
  unfold pkC at *
  dsimp only at *
  clear h hf hN hq hB1 q1 q2 q3 hok hpr
  by_cases h3 : proto = 2
  · subst h3
    have hs : syn = true := by simpa using h2
    subst hs
    clear h2
    go_enter Try.func61, Try.ntmps61
    go_wp2
    go_region
    all_goals
      go_wp2_with (first | (go_at_call 75; refine (unhide HF).mono ?_; rintro e w' ⟨rfl, hw⟩; symm at hw; subst hw) | (go_at_call 76; refine (newMapping_any _ _ _ _ _).mono ?_; rintro e w2 ⟨rfl, hn2, hb2, hs2⟩; have HC := hide (unhide HA w2 hb2 (by simpa using hs2) (by simpa using hn2)); clear hn2 hb2 hs2) | (go_at_call 77; refine (unhide HC).mono ?_; rintro e w3 ⟨rfl, hm3⟩; have HM3 := hide hm3; clear hm3))
      go_ret2
      exact ⟨_, rfl, unhide HM3⟩
  · have h3' : (proto == 2) = false := by simpa using h3
    clear h2
    go_enter Try.func61, Try.ntmps61
    go_wp2
    go_region
    all_goals
      go_wp2_with (first | (go_at_call 75; refine (unhide HF).mono ?_; rintro e w' ⟨rfl, hw⟩; symm at hw; subst hw) | (go_at_call 76; refine (newMapping_any _ _ _ _ _).mono ?_; rintro e w2 ⟨rfl, hn2, hb2, hs2⟩; have HC := hide (unhide HA w2 hb2 (by simpa using hs2) (by simpa using hn2)); clear hn2 hb2 hs2) | (go_at_call 77; refine (unhide HC).mono ?_; rintro e w3 ⟨rfl, hm3⟩; have HM3 := hide hm3; clear hm3))
      go_ret2
      exact ⟨_, rfl, unhide HM3⟩

end Go.Proofs.Ytkbgjbbniaflhaa
