/- 'mayMark', 'mayQuote', 'isPacket', 'span', 'pick': the program's leaves on packets and mappings. -/
import Derived.Test.YtkbgjbbniaflhaaPe
namespace Go.Proofs.Ytkbgjbbniaflhaa
open Go.RowKit

/-- may it bear its marks? -/
def markB (p : Pk) : Bool := (p.proto == 2 && !p.err) || (!p.syn && !p.fin && !p.rst)

theorem mayMark_any (p : Pk) (w : World) :
    Calls Try.prog 41 #[.agg (pkC p)] w fun e w' => e = .returned (.bool (markB p)) ∧ w' = w.alloc (.cells (pkC p) 38) := by
  obtain ⟨tag, proto, out, sa, sp, da, dp, syn, fin, rst, err, qsa, qsp, qda, qdp⟩ := p
  unfold pkC
  dsimp only
  by_cases h1 : proto = 2
  · cases err <;> cases syn <;> cases fin <;> cases rst
    all_goals
      simp only [markB, h1]
      go_enter Try.func41, Try.ntmps41
      go_wp2
      go_ret
      exact ⟨rfl, rfl⟩
  · have h2 : (proto == 2) = false := by simpa using h1
    cases syn <;> cases fin <;> cases rst
    all_goals
      simp only [markB, h2]
      go_enter Try.func41, Try.ntmps41
      go_wp2
      go_ret
      exact ⟨rfl, rfl⟩

/-- may it quote what it quotes? -/
def quoteB (p : Pk) : Bool := if p.err then endB p.qsa p.qsp && endB p.qda p.qdp else (p.qsa == 0 && p.qsp == 0) && (p.qda == 0 && p.qdp == 0)

theorem mayQuote_any (p : Pk) (w : World) :
    Calls Try.prog 40 #[.agg (pkC p)] w fun e w' => e = .returned (.bool (quoteB p)) ∧ Below w.heap.size w w' := by
  obtain ⟨tag, proto, out, sa, sp, da, dp, syn, fin, rst, err, qsa, qsp, qda, qdp⟩ := p
  unfold pkC quoteB
  dsimp only
  have e36 := eq36 9997
  cases err
  · go_enter Try.func40, Try.ntmps40
    go_wp2
    go_ret
    exact ⟨rfl, (Below.refl _ _).alloc (Nat.le_refl _) _⟩
  · cases h1 : endB qsa qsp
    · go_enter Try.func40, Try.ntmps40
      go_wp2_with (go_at_call 39; refine (isEnd_any _ _ _).mono ?_; rintro e w' ⟨rfl, rfl⟩)
      go_ret
      exact ⟨by simp, ((Below.refl _ _).alloc (Nat.le_refl _) _).alloc (by simp) _⟩
    · go_enter Try.func40, Try.ntmps40
      go_wp2_with (go_at_call 39; refine (isEnd_any _ _ _).mono ?_; rintro e w' ⟨rfl, rfl⟩)
      go_ret
      exact ⟨by simp, (((Below.refl _ _).alloc (Nat.le_refl _) _).alloc (by simp) _).alloc (by simp; omega) _⟩

/-- is it a packet? -/
def goodB (p : Pk) : Bool := decide (1 ≤ p.proto ∧ p.proto ≤ 3) && endB p.sa p.sp && endB p.da p.dp && quoteB p && markB p

end Go.Proofs.Ytkbgjbbniaflhaa
