/- For all numbers and both truth values the Go function 'masquekeep.Timed' returns true at the landed code; the arguments read behind the call as before. No condition is added. -/
import Derived.Test.YtgpplekabohneaaRows
import Derived.Test.YtgpplekabohneaaYx1
import Derived.Test.YtgpplekabohneaaYx2
import Derived.ProofKit
import Derived.OpenShut
namespace Go.Proofs.Ytgpplekabohneaa
open Go.ChangeShapes Go.WideShapes Go.ChangeAt Go.RowKit

theorem ownT : ownKnob Try.prog.godebug = none := by kernel_rfl

theorem wfT {a : Int} (h : (Lit.int .i64 a).wf = true) : -9223372036854775808 ≤ a ∧ a ≤ 9223372036854775807 := by
  simp [Lit.wf, IntKind.min, IntKind.max, IntKind.signed, IntKind.bits] at h
  omega

theorem pick_is (c : Int) (n x : Nat) (hc : -9223372036854775808 ≤ c ∧ c ≤ 9223372036854775807) (hn : 0 < n) (hn' : n ≤ 100000) (h : pk c n = x) (w : World) :
    Hid (Calls Try.prog 14 #[.int .i64 c, .int .i64 n] w fun e w' => e = .returned (.int .i64 x) ∧ w' = w) := by
  have := pick_eq c n w hc.1 hc.2 hn hn'
  rw [h] at this
  exact hide this

theorem timed_any (kind first second : Int) (inn : Bool) (w : World) (h1 : -9223372036854775808 ≤ kind ∧ kind ≤ 9223372036854775807) (h2 : -9223372036854775808 ≤ first ∧ first ≤ 9223372036854775807) (h3 : -9223372036854775808 ≤ second ∧ second ≤ 9223372036854775807) :
    Calls Try.prog 8 #[.int .i64 kind, .int .i64 first, .int .i64 second, .bool inn] w fun e w' => e = .returned (.bool true) ∧ Below w.heap.size w w' := by
  have a1 := pk_lt kind 3 (by omega)
  have a2 := pk_lt second 1100 (by omega)
  have H2 := pick_is second 1100 _ h3 (by omega) (by omega) rfl
  generalize pk second 1100 = x2 at a2 H2
  have hk : pk kind 3 = 0 ∨ pk kind 3 = 1 ∨ pk kind 3 = 2 := by omega
  rcases hk with hk | hk | hk
  · have HK := pick_is kind 3 0 h1 (by omega) (by omega) hk
    have a3 := pk_lt first 100 (by omega)
    have H1 := pick_is first 100 _ h2 (by omega) (by omega) rfl
    generalize pk first 100 = x1 at a3 H1
    cases inn
    · by_cases hg : (x1 : Int) + x2 < 100
      · exact timed_ans kind first second w x1 x2 (by omega) (by omega) (by omega) (by omega) hg HK H1 H2
      · exact timed_ang kind first second w x1 x2 (by omega) (by omega) (by omega) (by omega) hg HK H1 H2
    · by_cases hg : (x1 : Int) + x2 < 100
      · exact timed_ais kind first second w x1 x2 (by omega) (by omega) (by omega) (by omega) hg HK H1 H2
      · exact timed_aig kind first second w x1 x2 (by omega) (by omega) (by omega) (by omega) hg HK H1 H2
  · have HK := pick_is kind 3 1 h1 (by omega) (by omega) hk
    have a3 := pk_lt first 30 (by omega)
    have H1 := pick_is first 30 _ h2 (by omega) (by omega) rfl
    generalize pk first 30 = x1 at a3 H1
    cases inn
    · by_cases hg : (x1 : Int) + x2 < 30
      · exact timed_bns kind first second w x1 x2 (by omega) (by omega) (by omega) (by omega) hg HK H1 H2
      · exact timed_bng kind first second w x1 x2 (by omega) (by omega) (by omega) (by omega) hg HK H1 H2
    · by_cases hg : (x2 : Int) < 1000
      · exact timed_bis kind first second w x1 x2 (by omega) (by omega) (by omega) (by omega) hg HK H1 H2
      · exact timed_big kind first second w x1 x2 (by omega) (by omega) (by omega) (by omega) hg HK H1 H2
  · have HK := pick_is kind 3 2 h1 (by omega) (by omega) hk
    have a3 := pk_lt first 20 (by omega)
    have H1 := pick_is first 20 _ h2 (by omega) (by omega) rfl
    generalize pk first 20 = x1 at a3 H1
    cases inn
    · by_cases hg : (x1 : Int) + x2 < 20
      · exact timed_cns kind first second w x1 x2 (by omega) (by omega) (by omega) (by omega) hg HK H1 H2
      · exact timed_cng kind first second w x1 x2 (by omega) (by omega) (by omega) (by omega) hg HK H1 H2
    · by_cases hg : (x1 : Int) + x2 < 20
      · exact timed_cis kind first second w x1 x2 (by omega) (by omega) (by omega) (by omega) hg HK H1 H2
      · exact timed_cig kind first second w x1 x2 (by omega) (by omega) (by omega) (by omega) hg HK H1 H2

set_option maxRecDepth 100000 in
theorem timed_lifted (os : Os) (started : os.Started) (H : Type) (enc : TypeId × Value → H) :
    ReturnsInHanded {} Try.checked os 8 .any (Rows.timedSpec.pre6 enc Try.prog Try.f8 Rows.timedRow.domain false) (Rows.timedSpec.post enc Try.prog Try.f8 false true false false) := by
  refine returnsInHanded_of_change (C := Try.checked) ownT started (by kernel_rfl) Try.func8
    (ChangeSpec.witness6 (enc := enc) (C := Try.checked) false ⟨#[], #[.int .i64 0, .int .i64 0, .int .i64 0, .bool false], []⟩ 8 (by kernel_rfl) (by kernel_rfl) (by kernel_rfl) (by kernel_rfl)) ?_
  intro W base args ds gs before hval0 hW hcnd _
  have hval : ∀ (j : Nat) t v, Try.f8.params[j]? = some t → args[j]? = some v → Value.okWide Try.prog W .any base t v := hval0
  have hW' := hW
  obtain ⟨p, q, hA0, hV, rfl, hfz, hnd⟩ := hW
  have hA : DataW.TrodAll enc Try.prog W 0 (fun _ => true) true Try.f8.params.toList args.toList ds p := hA0
  rw [Try.params8] at hA hval
  obtain ⟨v0, vs0, d0, ds0, p0, q0, hargs, rfl, rfl, h0, r0⟩ := trodAll_cons hA
  obtain ⟨v1, vs1, d1, ds1, p1, q1, rfl, rfl, rfl, h1, r1⟩ := trodAll_cons r0
  obtain ⟨v2, vs2, d2, ds2, p2, q2, rfl, rfl, rfl, h2, r2⟩ := trodAll_cons r1
  obtain ⟨v3, vs3, d3, ds3, p3, q3, rfl, rfl, rfl, h3, r3⟩ := trodAll_cons r2
  obtain ⟨rfl, rfl, rfl⟩ := trodAll_nil r3
  obtain rfl : args = #[v0, v1, v2, v3] := by cases args; simp_all
  obtain ⟨rfl, rfl⟩ := trodVars_none hV
  obtain ⟨a0, rfl, rfl, rfl, w0⟩ := open_int Try.underlying3 (hval 0 3 v0 rfl rfl) h0
  obtain ⟨a1, rfl, rfl, rfl, w1⟩ := open_int Try.underlying3 (hval 1 3 v1 rfl rfl) h1
  obtain ⟨a2, rfl, rfl, rfl, w2⟩ := open_int Try.underlying3 (hval 2 3 v2 rfl rfl) h2
  obtain ⟨a3, rfl, rfl, rfl⟩ := open_bool Try.underlying4 (hval 3 4 v3 rfl rfl) h3
  clear hA0 hval0
  simp only [List.append_nil] at hW'
  refine (timed_any a0 a1 a2 a3 W (wfT w0) (wfT w1) (wfT w2)).mono fun e W' ⟨he, bel⟩ => ?_
  subst he
  refine ⟨_, rfl, _, _, _, [], [], [], hW', ?_, ?_, rfl, bel.frame _, fun h => by cases h⟩
  · exact trodAll_cons_mk (shut_bool Try.underlying4 _) trodAll_mk0
  · exact trodAll_cons_mk (shut_int Try.underlying3 w0) (trodAll_cons_mk (shut_int Try.underlying3 w1) (trodAll_cons_mk (shut_int Try.underlying3 w2) (trodAll_cons_mk (shut_bool Try.underlying4 _) trodAll_mk0)))

theorem timed_holds : Rows.TimedSaid :=
  OpenClaim.holds_of_wide 8 Try.f8 rfl rfl rfl rfl rfl rfl rfl ⟨rfl, rfl, rfl, rfl, rfl⟩ rfl rfl rfl rfl rfl (by kernel_rfl) Try.func8 (by kernel_rfl)
    (of_decide_eq_true (by kernel_rfl)) (by unfold Func.isWrapper; first | (rw [if_pos (by decide +kernel)]; kernel_rfl) | (rw [if_neg (by decide +kernel)]; exact ⟨rfl, rfl⟩))
    (fun os started H enc _ => timed_lifted os started H enc)

end Go.Proofs.Ytgpplekabohneaa
