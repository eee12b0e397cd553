/- 'takeMarks': a packet that goes out without Syn. -/
import Derived.Test.YtkbgjbbniaflhaaPd
namespace Go.Proofs.Ytkbgjbbniaflhaa
open Go.RowKit

set_option maxHeartbeats 2000000 in
theorem takeMarks_out0 (g : Nat) (sv : Value) (tag proto : Int) (sa sp da dp : Int) (fin rst err : Bool) (qsa qsp qda qdp : Int) (mp ma mi mo : Int) (ps : List Int) (st idle : Int) (fo fi : Bool) (w : World) (hM : w.heap[g]? = some (.cells (mpC ⟨mp, ma, mi, mo, ps, st, idle, fo, fi⟩ sv) 105 (0, 0))) :
    Calls Try.prog 63 #[.pointer (some ⟨g, 0, none⟩), .agg #[.int .i64 tag, .int .i64 proto, .bool true, .int .i64 sa, .int .i64 sp, .int .i64 da, .int .i64 dp, .bool false, .bool fin, .bool rst, .bool err, .int .i64 qsa, .int .i64 qsp, .int .i64 qda, .int .i64 qdp]] w fun e w' => e = .returned (.tuple #[]) ∧ w'.heap[g]? = some (.cells (mpC (marksF ⟨mp, ma, mi, mo, ps, st, idle, fo, fi⟩ true false fin rst) sv) 105 (0, 0)) ∧ Fr (fun k => k = g) w w' := by
  have hlt : g < w.heap.size := (Array.getElem?_eq_some_iff.1 hM).1
  have hne : g ≠ w.heap.size := by omega
  unfold mpC at hM
  dsimp only at hM
  have c5 : w.cell? ⟨g, 5, none⟩ = some (.int .i64 st) := by simp [World.cell?, hM]
  have c7 : w.cell? ⟨g, 7, none⟩ = some (.bool fo) := by simp [World.cell?, hM]
  have c8 : w.cell? ⟨g, 8, none⟩ = some (.bool fi) := by simp [World.cell?, hM]
  have z5 : ∀ o, w.frozen? ⟨g, o, none⟩ = false := by intro o; simp [World.frozen?, hM]
  have HM := hide hM
  clear hM
  cases fin <;> cases rst <;> cases fi
  all_goals
    go_enter Try.func63, Try.ntmps63
    go_wp2
    refine wp_scope_fwd 0 rfl ?_
    go_wp2
    all_goals
      first
      | (go_step3; refine ⟨rfl, ?_⟩; go_wp2; (try simp only [Exit.noGoto]); go_end0)
      | ((try simp only [Exit.jump]); refine bodyPost_ret (results_none rfl _ _ _) rfl ?_)
    all_goals
      refine ⟨rfl, blkA ?_, Fr.alloc ?_ _⟩
      · have hb := unhide HM
        repeat (first | rw [setB hb] | rw [setB (setB hb _ _)] | rw [setB (setB (setB hb _ _) _ _)] | rw [setB (setB (setB (setB hb _ _) _ _) _ _)] | rw [setB (setB (setB (setB (setB hb _ _) _ _) _ _) _ _)] | rw [hb])
        simp [marksF, mpC]
      · repeat (first | exact Fr.refl _ _ | refine Fr.setCell ?_ _ (fun _ => rfl))

end Go.Proofs.Ytkbgjbbniaflhaa
