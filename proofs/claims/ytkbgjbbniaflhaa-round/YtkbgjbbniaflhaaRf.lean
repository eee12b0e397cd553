/- 'datagram', 'answer'; what a box of three tenants answers to a first datagram. -/
import Derived.Test.YtkbgjbbniaflhaaRc
import Derived.Test.YtkbgjbbniaflhaaRe
namespace Go.Proofs.Ytkbgjbbniaflhaa
open Go.RowKit

def dgram (tag addr port to : Int) : Pk := ⟨tag, 1, true, addr, port, to, 53, false, false, false, false, 0, 0, 0, 0⟩
def answerF (p : Pk) : Pk := ⟨p.tag, p.proto, false, p.da, p.dp, p.sa, p.sp, false, false, false, false, 0, 0, 0, 0⟩

set_option maxHeartbeats 1000000 in
theorem datagram_any (tag addr port to : Int) (w : World) :
    Calls Try.prog 20 #[.int .i64 tag, .int .i64 addr, .int .i64 port, .int .i64 to] w fun e w' => e = .returned (.agg (pkC (dgram tag addr port to))) ∧ Below w.heap.size w w' := by
  unfold pkC dgram
  dsimp only
  go_enter Try.func20, Try.ntmps20
  go_wp2
  exact bodyPost_ret (v := .agg #[.int .i64 tag, .int .i64 1, .bool true, .int .i64 addr, .int .i64 port, .int .i64 to, .int .i64 53, .bool false, .bool false, .bool false, .bool false, .int .i64 0, .int .i64 0, .int .i64 0, .int .i64 0]) (by simp [results, Try.results20, go_sem]) rfl ⟨rfl, (Below.refl _ _).alloc (Nat.le_refl _) _⟩

set_option maxHeartbeats 1000000 in
theorem answer_any (p : Pk) (w : World) :
    Calls Try.prog 19 #[.agg (pkC p)] w fun e w' => e = .returned (.agg (pkC (answerF p))) ∧ Below w.heap.size w w' := by
  obtain ⟨tag, proto, out, sa, sp, da, dp, syn, fin, rst, err, qsa, qsp, qda, qdp⟩ := p
  unfold pkC answerF
  dsimp only
  go_enter Try.func19, Try.ntmps19
  go_wp2
  exact bodyPost_ret (v := .agg #[.int .i64 tag, .int .i64 proto, .bool false, .int .i64 da, .int .i64 dp, .int .i64 sa, .int .i64 sp, .bool false, .bool false, .bool false, .bool false, .int .i64 0, .int .i64 0, .int .i64 0, .int .i64 0]) (by simp [results, Try.results19, go_sem]) rfl ⟨rfl, ((Below.refl _ _).alloc (Nat.le_refl _) _).alloc (by simp) _⟩

def boxTs (high : Int) : List Ten := [⟨1, 1000, 100, high⟩, ⟨2, 2000, 100, high⟩, ⟨3, 3000, 100, high⟩]
def boxB (high : Int) : List (Int × Tn) := [(1, ⟨1000, 100, high, []⟩), (2, ⟨2000, 100, high, []⟩), (3, ⟨3000, 100, high, []⟩)]

theorem boxTs_err (high : Int) (h1 : 100 ≤ high) (h2 : high ≤ 163) : newErr (boxTs high) = 0 := by
  have ok : ∀ t o : Int, 1 ≤ t → t ≤ 3 → 0 ≤ o → o ≤ 3000 → okT ⟨t, o, 100, high⟩ = true := fun t o a b c d => by
    unfold okT
    simp only [decide_eq_true_eq]
    omega
  simp [newErr, boxTs, errFrom, ok, twiceIn]

def q1P : Pk := ⟨1, 1, true, 1000, 100, 9, 53, false, false, false, false, 0, 0, 0, 0⟩
def box1 (high : Int) : List (Int × Tn) := [(1, ⟨1000, 100, high, [⟨1, 7, 70, 100, [9], 0, 0, false, false⟩]⟩), (2, ⟨2000, 100, high, []⟩), (3, ⟨3000, 100, high, []⟩)]

theorem freeF_first (p : Int) (high : Int) (h : 100 ≤ high) : freeF [] p (high + 1 - 100).toNat 100 = some 100 := by
  obtain ⟨k, hk⟩ : ∃ k, (high + 1 - 100).toNat = k + 1 := ⟨(high + 1 - 100).toNat - 1, by omega⟩
  rw [hk]
  rfl

theorem box_pass1 (high : Int) (h : 100 ≤ high) : passB (boxB high) (dgram 1 7 70 9) = (box1 high, q1P, 0, 0) := by
  have e := freeF_first 1 high h
  have e1 : outF ⟨1000, 100, high, []⟩ (dgram 1 7 70 9) = (⟨1000, 100, high, [⟨1, 7, 70, 100, [9], 0, 0, false, false⟩]⟩, q1P, 0) := by
    unfold outF
    simp only [dgram, List.find?_nil]
    rw [e]
    rfl
  have e2 : passF ⟨1000, 100, high, []⟩ (dgram 1 7 70 9) = outF ⟨1000, 100, high, []⟩ (dgram 1 7 70 9) := rfl
  have e3 : passB (boxB high) (dgram 1 7 70 9) = (putT (boxB high) 1 (passF ⟨1000, 100, high, []⟩ (dgram 1 7 70 9)).1, (passF ⟨1000, 100, high, []⟩ (dgram 1 7 70 9)).2.1, (passF ⟨1000, 100, high, []⟩ (dgram 1 7 70 9)).2.2, 0) := rfl
  rw [e3, e2, e1]
  rfl

theorem box_pass2 (high : Int) : passB (box1 high) (answerF q1P) = (box1 high, ⟨1, 1, false, 9, 53, 7, 70, false, false, false, false, 0, 0, 0, 0⟩, 0, 0) := rfl

end Go.Proofs.Ytkbgjbbniaflhaa
