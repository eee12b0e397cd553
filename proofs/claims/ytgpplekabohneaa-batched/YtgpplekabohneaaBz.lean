/- For all lists of events and all numbers the Go function 'masquekeep.Batched' returns true at the landed code, on every tape of the machine's (whichever of its goroutines go on, in whatever order); the arguments read behind the call as before; who is left behind is leaving. No condition is added. -/
import Derived.Test.YtgpplekabohneaaRows
import Derived.Test.YtgpplekabohneaaYba
import Derived.Conc.LeavingOf
import Derived.ProofKit
import Derived.OpenShut
namespace Go.Proofs.Ytgpplekabohneaa
open Go.ChangeShapes Go.WideShapes Go.ChangeAt Go.RowKit Go.Deep

set_option maxRecDepth 100000 in
theorem batched_lifted (os : Os) (started : os.Started) (H : Type) (enc : TypeId × Value → H) :
    ReturnsInLeavingWide {} Try.checked os 12 .any (Rows.batchedSpec.pre6 enc Try.prog Try.f12 Rows.batchedRow.domain false) (Rows.batchedSpec.post enc Try.prog Try.f12 false true false false) := by
  refine returnsInLeavingWide_of_change_sized (C := Try.checked) ownK started Try.func12
    (ChangeSpec.witness6 (enc := enc) (C := Try.checked) false ⟨#[], #[.slice none 0 0, .int .i64 0], []⟩ 8 (by kernel_rfl) (by kernel_rfl) (by kernel_rfl) (by kernel_rfl)) ?_
  intro W base args ds gs before hval0 hW hcnd _ _
  have hval : ∀ (j : Nat) t v, Try.f12.params[j]? = some t → args[j]? = some v → Value.okWide Try.prog W .any base t v := hval0
  have hW' := hW
  obtain ⟨p, q, hA0, hV, rfl, hfz, hnd⟩ := hW
  have hA : DataW.TrodAll enc Try.prog W 0 (fun _ => true) true Try.f12.params.toList args.toList ds p := hA0
  rw [Try.params12] at hA hval
  obtain ⟨v0, vs0, d0, ds0, p0, q0, hargs, rfl, rfl, h0, r0⟩ := trodAll_cons hA
  obtain ⟨v1, vs1, d1, ds1, p1, q1, rfl, rfl, rfl, h1, r1⟩ := trodAll_cons r0
  obtain ⟨rfl, rfl, rfl⟩ := trodAll_nil r1
  obtain rfl : args = #[v0, v1] := by cases args; simp_all
  obtain ⟨rfl, rfl⟩ := trodVars_none hV
  obtain ⟨a1, rfl, rfl, rfl, w1⟩ := open_int Try.underlying3 (hval 1 3 v1 rfl rfl) h1
  clear hA0 hval0
  simp only [List.append_nil] at hW'
  have hlt : ∀ x ∈ p0, x.block < W.heap.size := fun x hx => by simpa using hW'.lt x (by simpa using hx)
  obtain ⟨b0, len, cap, rfl⟩ := okWide_slice Try.underlying25 (hval 0 25 v0 rfl rfl)
  have h0' := h0
  obtain ⟨fuel, hf⟩ := h0
  obtain ⟨b1, m, cap', l, hc, hE⟩ := open_events (c := .slice b0 len cap) (fun _ => rfl) hf
  cases hc
  obtain ⟨N, last, o, w', t', k1, k2, k3, k4⟩ := Co.batched_runs W b0 len cap l a1 hE (wf_R64 w1)
  refine ⟨N, last, o, w', t', k1, k2, k3, k4.mono fun v hp => ?_⟩
  obtain ⟨rfl, g1, g2, g3, g4⟩ := hp
  have bel : Below W.heap.size W (Co.tp w' W.tape 0) := ⟨g1, rfl, g2, g3, g4⟩
  have kept : ∀ may, W.keptBut w' may := fun may => by
    refine ⟨g1, g2, fun i hi => ?_⟩
    rw [g4 i hi]
    split <;> simp_all
  refine ⟨_, _, _, [], p0 ++ [], [], hW', ?_, ?_, rfl, kept _, fun h => by cases h⟩
  · exact trodAll_cons_mk (shut_bool Try.underlying4 _) trodAll_mk0
  · have := trodAll_cons_mk (Below.trod laidK (by kernel_rfl) (of_decide_eq_true (by kernel_rfl)) h0' bel hlt) (trodAll_cons_mk (shut_int Try.underlying3 w1) trodAll_mk0)
    exact DataW.TrodAll.of_heap (w := Co.tp w' W.tape 0) (w' := w') rfl this

theorem batched_holds : Rows.BatchedSaid :=
  OpenClaim.holds_of_wide_leaving 12 Try.f12 rfl rfl rfl rfl rfl rfl rfl ⟨rfl, rfl, rfl, rfl, rfl⟩ rfl rfl rfl rfl rfl (by kernel_rfl) Try.func12 (by kernel_rfl)
    (of_decide_eq_true (by kernel_rfl)) (by unfold Func.isWrapper; first | (rw [if_pos (by decide +kernel)]; kernel_rfl) | (rw [if_neg (by decide +kernel)]; exact ⟨rfl, rfl⟩))
    (fun os started H enc _ => batched_lifted os started H enc)

end Go.Proofs.Ytgpplekabohneaa
