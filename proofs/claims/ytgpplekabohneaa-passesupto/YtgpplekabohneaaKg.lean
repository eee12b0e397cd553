/- 'in' of the document. -/
import Derived.Test.YtgpplekabohneaaXb
namespace Go.Proofs.Ytgpplekabohneaa
open Go.RowKit

/-- what a packet leaves of the document's box -/
def REnd (w : World) (S : Nat → Prop) (r : Nat) (tv lv : Value) (ts : List Ten) (L : List RCl) (t : Nat) (ms : List Mp) (q0 : Pk) (v : Int) (e : Ending) (w' : World) : Prop :=
  ∃ q L', e = .returned (.tuple #[.agg (pkC q), .int .i64 v]) ∧ RefR w' (grow S w w') r tv lv ts L' ∧ Fr S w w' ∧ absM L' t = ms ∧ (∀ j, j ≠ t → absM L' j = absM L j) ∧ (v = 0 → q = q0)

section
variable {w : World} {S : Nat → Prop} {r : Nat} {tv lv : Value} {ts : List Ten} {L : List RCl}

theorem RefR.ten (h : RefR w S r tv lv ts L) {t : Nat} (ht : t < ts.length) : ∃ b cap, tv = .slice (some ⟨b, 0, none⟩) ts.length cap ∧ ts.length ≤ cap ∧ cap ≤ maxLen ∧ b < w.heap.size ∧ w.cell? ⟨b, t * 4, none⟩ = some (.int .i64 ts[t].tag) ∧ w.cell? ⟨b, t * 4 + 1, none⟩ = some (.int .i64 ts[t].outer) ∧ w.cell? ⟨b, t * 4 + 2, none⟩ = some (.int .i64 ts[t].low) ∧ w.cell? ⟨b, t * 4 + 3, none⟩ = some (.int .i64 ts[t].high) := by
  obtain ⟨ao, cap, rfl, k1, k2, k3⟩ := row4_cells h.tens
  obtain ⟨g, rfl, hg, hT⟩ := k3 (by omega)
  obtain ⟨a0, a1, a2, a3⟩ := hT t ht
  simp only [Nat.zero_add] at a0 a1 a2 a3
  exact ⟨g, cap, rfl, k1, k2, hg, a0, a1, a2, a3⟩

set_option maxHeartbeats 2000000 in
set_option maxRecDepth 100000 in
theorem rin_far (h : RefR w S r tv lv ts L) {t : Nat} (ht : t < ts.length) (p : Pk) (hn : L.find? (atP t p.proto p.dp) = none ∨ p.da ≠ ts[t].outer) :
    Calls Try.prog 98 #[.pointer (some ⟨r, 0, none⟩), .int .i64 t, .agg (pkC p)] w fun e w' => e = .returned (.tuple #[.agg (pkC p), .int .i64 4]) ∧ Below w.heap.size w w' := by
  obtain ⟨tag, proto, out, sa, sp, da, dp, syn, fin, rst, err, qsa, qsp, qda, qdp⟩ := p
  dsimp only at hn
  obtain ⟨c0, -, -, hr⟩ := h.cells
  obtain ⟨b, cap, rfl, k1, k2, hb, -, a1, -, -⟩ := h.ten ht
  have HC := fun W (hW : Below w.heap.size w W) => hide (byPort_any (h.new hW) t proto dp)
  unfold maxLen at k2
  unfold pkC
  dsimp only
  clear h
  rcases hf : L.find? (atP t proto dp) with _ | x
  · rw [hf] at HC
    clear hn hf
    go_enter Try.func98, Try.ntmps98
    go_wp2_with fail
    refine (unhide (HC _ (((Below.refl _ _).alloc (Nat.le_refl _) _).alloc (by simp) _))).mono ?_
    rintro e w1 ⟨rfl, rfl⟩
    clear HC
    unfold ptrO
    go_upto_region 2 with fail
    go_big_quiet (fail)
    go_wp2
    refine bodyPost_ret (v := .tuple #[.agg #[.int .i64 tag, .int .i64 proto, .bool out, .int .i64 sa, .int .i64 sp, .int .i64 da, .int .i64 dp, .bool syn, .bool fin, .bool rst, .bool err, .int .i64 qsa, .int .i64 qsp, .int .i64 qda, .int .i64 qdp], .int .i64 4]) (by simp [results, Try.results98, go_sem]) rfl ⟨rfl, ?_⟩
    repeat (refine Below.setCell ?_ (by simp) _)
    exact (((Below.refl _ _).alloc (Nat.le_refl _) _).alloc (by simp) _).trans ⟨rfl, rfl, rfl, by simp, fun _ _ => rfl⟩
  · rw [hf] at HC
    have hne : ¬ da = ts[t].outer := by
      rcases hn with hn | hn
      · rw [hf] at hn
        cases hn
      · exact hn
    clear hn hf
    generalize ts[t].outer = oo at a1 hne
    have hne2 : (da == oo) = false := by simpa using hne
    have hne3 : (da != oo) = true := by simpa using hne
    go_enter Try.func98, Try.ntmps98
    go_wp2_with fail
    refine (unhide (HC _ (((Below.refl _ _).alloc (Nat.le_refl _) _).alloc (by simp) _))).mono ?_
    rintro e w1 ⟨rfl, rfl⟩
    clear HC
    unfold ptrO ptrV
    go_upto_region 2 with fail
    go_big_quiet (fail)
    go_wp2
    refine bodyPost_ret (v := .tuple #[.agg #[.int .i64 tag, .int .i64 proto, .bool out, .int .i64 sa, .int .i64 sp, .int .i64 da, .int .i64 dp, .bool syn, .bool fin, .bool rst, .bool err, .int .i64 qsa, .int .i64 qsp, .int .i64 qda, .int .i64 qdp], .int .i64 4]) (by simp [results, Try.results98, go_sem]) rfl ⟨rfl, ?_⟩
    repeat (refine Below.setCell ?_ (by simp) _)
    exact (((Below.refl _ _).alloc (Nat.le_refl _) _).alloc (by simp) _).trans ⟨rfl, rfl, rfl, by simp, fun _ _ => rfl⟩
end

end Go.Proofs.Ytgpplekabohneaa
