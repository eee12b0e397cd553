/- 'mappingFor': a mapping that is there; none, and none may begin; no room. -/
import Derived.Test.YtkbgjbbniaflhaaQf
namespace Go.Proofs.Ytkbgjbbniaflhaa
open Go.RowKit
open Go.ChangeMaps (setBlock)

set_option maxHeartbeats 1000000 in
theorem mappingFor_old {w : World} {S : Nat → Prop} {g hp hi : Nat} {T : Tn} {L : List Cl} (h : TenR w S g hp hi T L) (p : Pk) {x : Cl} (hx : x ∈ L) (hf : T.maps.find? (isI p.proto p.sa p.sp) = some x.m) :
    Calls Try.prog 61 #[.pointer (some ⟨g, 0, none⟩), .agg (pkC p)] w fun e w' => e = .returned (.tuple #[.pointer (some ⟨x.g, 0, none⟩), .int .i64 0]) ∧ Below w.heap.size w w' := by
  obtain ⟨l1, -, -, -, -, c4⟩ := h.cells
  have hl := (h.new ((Below.refl _ _).alloc (Nat.le_refl _) (.cells (pkC p) 38)).drew).lookI_some hx hf
  obtain ⟨tag, proto, out, sa, sp, da, dp, syn, fin, rst, err, qsa, qsp, qda, qdp⟩ := p
  unfold pkC at *
  dsimp only at *
  clear h hf hx
  go_enter Try.func61, Try.ntmps61
  go_wp2
  go_region
  all_goals
    go_wp2
    go_ret2
    exact ⟨rfl, ((Below.refl _ _).alloc (Nat.le_refl _) _).drew⟩

set_option maxHeartbeats 1000000 in
theorem mappingFor_not {w : World} {S : Nat → Prop} {g hp hi : Nat} {T : Tn} {L : List Cl} (h : TenR w S g hp hi T L) (p : Pk) (hf : T.maps.find? (isI p.proto p.sa p.sp) = none) (h2 : p.proto = 2) (hs : p.syn = false) :
    Calls Try.prog 61 #[.pointer (some ⟨g, 0, none⟩), .agg (pkC p)] w fun e w' => e = .returned (.tuple #[.pointer none, .int .i64 2]) ∧ Below w.heap.size w w' := by
  obtain ⟨l1, -, -, -, -, c4⟩ := h.cells
  have hl := (h.new ((Below.refl _ _).alloc (Nat.le_refl _) (.cells (pkC p) 38)).drew).lookI_none hf
  obtain ⟨tag, proto, out, sa, sp, da, dp, syn, fin, rst, err, qsa, qsp, qda, qdp⟩ := p
  unfold pkC at *
  dsimp only at *
  subst h2
  subst hs
  clear h hf
  go_enter Try.func61, Try.ntmps61
  go_wp2
  go_region
  all_goals
    go_wp2
    go_ret2
    exact ⟨rfl, ((Below.refl _ _).alloc (Nat.le_refl _) _).drew⟩

set_option maxHeartbeats 1000000 in
theorem mappingFor_full {w : World} {S : Nat → Prop} {g hp hi : Nat} {T : Tn} {L : List Cl} (h : TenR w S g hp hi T L) (p : Pk) (hf : T.maps.find? (isI p.proto p.sa p.sp) = none) (h2 : (p.proto == 2 && !p.syn) = false) (hq : freeF T.maps p.proto (T.high + 1 - T.low).toNat T.low = none) :
    Calls Try.prog 61 #[.pointer (some ⟨g, 0, none⟩), .agg (pkC p)] w fun e w' => e = .returned (.tuple #[.pointer none, .int .i64 3]) ∧ Below w.heap.size w w' := by
  obtain ⟨l1, -, -, -, -, c4⟩ := h.cells
  have hN := h.new ((Below.refl _ _).alloc (Nat.le_refl _) (.cells (pkC p) 38)).drew
  have hl := hN.lookI_none hf
  have HF := hide (freePort_any hN p.proto)
  rw [hq] at HF
  unfold freeV at HF
  obtain ⟨tag, proto, out, sa, sp, da, dp, syn, fin, rst, err, qsa, qsp, qda, qdp⟩ := p
  unfold pkC at *
  dsimp only at *
  clear h hf hN hq
  by_cases h3 : proto = 2
  · subst h3
    have hs : syn = true := by simpa using h2
    subst hs
    clear h2
    go_enter Try.func61, Try.ntmps61
    go_wp2
    go_region
    all_goals
      go_wp2_with (go_at_call 75; refine (unhide HF).mono ?_; rintro e w' ⟨rfl, hw⟩; symm at hw; subst hw)
      go_ret2
      exact ⟨rfl, ((Below.refl _ _).alloc (Nat.le_refl _) _).drew⟩
  · have h3' : (proto == 2) = false := by simpa using h3
    clear h2
    go_enter Try.func61, Try.ntmps61
    go_wp2
    go_region
    all_goals
      go_wp2_with (go_at_call 75; refine (unhide HF).mono ?_; rintro e w' ⟨rfl, hw⟩; symm at hw; subst hw)
      go_ret2
      exact ⟨rfl, ((Below.refl _ _).alloc (Nat.le_refl _) _).drew⟩

end Go.Proofs.Ytkbgjbbniaflhaa
