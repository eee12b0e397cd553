/- A stream's marks, walked; peers. -/
import Derived.Test.YtgpplekabohneaaPq
namespace Go.Proofs.Ytgpplekabohneaa
section
open Go.RowKit

set_option maxHeartbeats 2000000 in
theorem takeMarks_in1 (g : Nat) (sv : Value) (tag proto : Int) (sa sp da dp : Int) (syn fin rst err : Bool) (qsa qsp qda qdp : Int) (mp ma mi mo : Int) (ps : List Int) (st idle : Int) (fo fi : Bool) (w : World) (hM : w.heap[g]? = some (.cells (mpC ⟨mp, ma, mi, mo, ps, st, idle, fo, fi⟩ sv) 109 (0, 0))) (h1 : st = 1) :
    Calls Try.prog 70 #[.pointer (some ⟨g, 0, none⟩), .agg #[.int .i64 tag, .int .i64 proto, .bool false, .int .i64 sa, .int .i64 sp, .int .i64 da, .int .i64 dp, .bool syn, .bool fin, .bool rst, .bool err, .int .i64 qsa, .int .i64 qsp, .int .i64 qda, .int .i64 qdp]] w fun e w' => e = .returned (.tuple #[]) ∧ w'.heap[g]? = some (.cells (mpC (marksF ⟨mp, ma, mi, mo, ps, st, idle, fo, fi⟩ false syn fin rst) sv) 109 (0, 0)) ∧ Fr (fun k => k = g) w w' := by
  have hlt : g < w.heap.size := (Array.getElem?_eq_some_iff.1 hM).1
  have hne : g ≠ w.heap.size := by omega
  unfold mpC at hM
  dsimp only at hM
  have c5 : w.cell? ⟨g, 5, none⟩ = some (.int .i64 st) := by simp [World.cell?, hM]
  have c7 : w.cell? ⟨g, 7, none⟩ = some (.bool fo) := by simp [World.cell?, hM]
  have c8 : w.cell? ⟨g, 8, none⟩ = some (.bool fi) := by simp [World.cell?, hM]
  have z5 : ∀ o, w.frozen? ⟨g, o, none⟩ = false := by intro o; simp [World.frozen?, hM]
  have HM := hide hM
  clear hM
  cases fin <;> cases rst <;> cases fo
  all_goals
    go_enter Try.func70, Try.ntmps70
    go_wp2
    refine wp_scope_fwd 0 rfl ?_
    go_wp2
    all_goals
      first
      | (go_step3; refine ⟨rfl, ?_⟩; go_wp2; (try simp only [Exit.noGoto]); go_end0)
      | ((try simp only [Exit.jump]); refine bodyPost_ret (results_none rfl _ _ _) rfl ?_)
    all_goals
      refine ⟨rfl, blkA ?_, Fr.alloc ?_ _⟩
      · have hb := unhide HM
        repeat (first | rw [setB hb] | rw [setB (setB hb _ _)] | rw [setB (setB (setB hb _ _) _ _)] | rw [setB (setB (setB (setB hb _ _) _ _) _ _)] | rw [setB (setB (setB (setB (setB hb _ _) _ _) _ _) _ _)] | rw [hb])
        simp [marksF, mpC, h1]
      · repeat (first | exact Fr.refl _ _ | refine Fr.setCell ?_ _ (fun _ => rfl))
end

section
open Go.RowKit

set_option maxHeartbeats 2000000 in
theorem takeMarks_in0 (g : Nat) (sv : Value) (tag proto : Int) (sa sp da dp : Int) (syn fin rst err : Bool) (qsa qsp qda qdp : Int) (mp ma mi mo : Int) (ps : List Int) (st idle : Int) (fo fi : Bool) (w : World) (hM : w.heap[g]? = some (.cells (mpC ⟨mp, ma, mi, mo, ps, st, idle, fo, fi⟩ sv) 109 (0, 0))) (h1 : (st == 1) = false) :
    Calls Try.prog 70 #[.pointer (some ⟨g, 0, none⟩), .agg #[.int .i64 tag, .int .i64 proto, .bool false, .int .i64 sa, .int .i64 sp, .int .i64 da, .int .i64 dp, .bool syn, .bool fin, .bool rst, .bool err, .int .i64 qsa, .int .i64 qsp, .int .i64 qda, .int .i64 qdp]] w fun e w' => e = .returned (.tuple #[]) ∧ w'.heap[g]? = some (.cells (mpC (marksF ⟨mp, ma, mi, mo, ps, st, idle, fo, fi⟩ false syn fin rst) sv) 109 (0, 0)) ∧ Fr (fun k => k = g) w w' := by
  have hlt : g < w.heap.size := (Array.getElem?_eq_some_iff.1 hM).1
  have hne : g ≠ w.heap.size := by omega
  unfold mpC at hM
  dsimp only at hM
  have c5 : w.cell? ⟨g, 5, none⟩ = some (.int .i64 st) := by simp [World.cell?, hM]
  have c7 : w.cell? ⟨g, 7, none⟩ = some (.bool fo) := by simp [World.cell?, hM]
  have c8 : w.cell? ⟨g, 8, none⟩ = some (.bool fi) := by simp [World.cell?, hM]
  have z5 : ∀ o, w.frozen? ⟨g, o, none⟩ = false := by intro o; simp [World.frozen?, hM]
  have HM := hide hM
  clear hM
  cases fin <;> cases rst <;> cases fo
  all_goals
    go_enter Try.func70, Try.ntmps70
    go_wp2
    refine wp_scope_fwd 0 rfl ?_
    go_wp2
    all_goals
      first
      | (go_step3; refine ⟨rfl, ?_⟩; go_wp2; (try simp only [Exit.noGoto]); go_end0)
      | ((try simp only [Exit.jump]); refine bodyPost_ret (results_none rfl _ _ _) rfl ?_)
    all_goals
      refine ⟨rfl, blkA ?_, Fr.alloc ?_ _⟩
      · have hb := unhide HM
        repeat (first | rw [setB hb] | rw [setB (setB hb _ _)] | rw [setB (setB (setB hb _ _) _ _)] | rw [setB (setB (setB (setB hb _ _) _ _) _ _)] | rw [setB (setB (setB (setB (setB hb _ _) _ _) _ _) _ _)] | rw [hb])
        simp [marksF, mpC, show ¬ st = 1 from by simpa using h1]
      · repeat (first | exact Fr.refl _ _ | refine Fr.setCell ?_ _ (fun _ => rfl))
end

section
open Go.RowKit

set_option maxHeartbeats 2000000 in
theorem takeMarks_out0 (g : Nat) (sv : Value) (tag proto : Int) (sa sp da dp : Int) (fin rst err : Bool) (qsa qsp qda qdp : Int) (mp ma mi mo : Int) (ps : List Int) (st idle : Int) (fo fi : Bool) (w : World) (hM : w.heap[g]? = some (.cells (mpC ⟨mp, ma, mi, mo, ps, st, idle, fo, fi⟩ sv) 109 (0, 0))) :
    Calls Try.prog 70 #[.pointer (some ⟨g, 0, none⟩), .agg #[.int .i64 tag, .int .i64 proto, .bool true, .int .i64 sa, .int .i64 sp, .int .i64 da, .int .i64 dp, .bool false, .bool fin, .bool rst, .bool err, .int .i64 qsa, .int .i64 qsp, .int .i64 qda, .int .i64 qdp]] w fun e w' => e = .returned (.tuple #[]) ∧ w'.heap[g]? = some (.cells (mpC (marksF ⟨mp, ma, mi, mo, ps, st, idle, fo, fi⟩ true false fin rst) sv) 109 (0, 0)) ∧ Fr (fun k => k = g) w w' := by
  have hlt : g < w.heap.size := (Array.getElem?_eq_some_iff.1 hM).1
  have hne : g ≠ w.heap.size := by omega
  unfold mpC at hM
  dsimp only at hM
  have c5 : w.cell? ⟨g, 5, none⟩ = some (.int .i64 st) := by simp [World.cell?, hM]
  have c7 : w.cell? ⟨g, 7, none⟩ = some (.bool fo) := by simp [World.cell?, hM]
  have c8 : w.cell? ⟨g, 8, none⟩ = some (.bool fi) := by simp [World.cell?, hM]
  have z5 : ∀ o, w.frozen? ⟨g, o, none⟩ = false := by intro o; simp [World.frozen?, hM]
  have HM := hide hM
  clear hM
  cases fin <;> cases rst <;> cases fi
  all_goals
    go_enter Try.func70, Try.ntmps70
    go_wp2
    refine wp_scope_fwd 0 rfl ?_
    go_wp2
    all_goals
      first
      | (go_step3; refine ⟨rfl, ?_⟩; go_wp2; (try simp only [Exit.noGoto]); go_end0)
      | ((try simp only [Exit.jump]); refine bodyPost_ret (results_none rfl _ _ _) rfl ?_)
    all_goals
      refine ⟨rfl, blkA ?_, Fr.alloc ?_ _⟩
      · have hb := unhide HM
        repeat (first | rw [setB hb] | rw [setB (setB hb _ _)] | rw [setB (setB (setB hb _ _) _ _)] | rw [setB (setB (setB (setB hb _ _) _ _) _ _)] | rw [setB (setB (setB (setB (setB hb _ _) _ _) _ _) _ _)] | rw [hb])
        simp [marksF, mpC]
      · repeat (first | exact Fr.refl _ _ | refine Fr.setCell ?_ _ (fun _ => rfl))
end

section
open Go.RowKit

set_option maxHeartbeats 2000000 in
theorem takeMarks_out3 (g : Nat) (sv : Value) (tag proto : Int) (sa sp da dp : Int) (fin rst err : Bool) (qsa qsp qda qdp : Int) (mp ma mi mo : Int) (ps : List Int) (st idle : Int) (fo fi : Bool) (w : World) (hM : w.heap[g]? = some (.cells (mpC ⟨mp, ma, mi, mo, ps, st, idle, fo, fi⟩ sv) 109 (0, 0))) (h1 : st = 3) :
    Calls Try.prog 70 #[.pointer (some ⟨g, 0, none⟩), .agg #[.int .i64 tag, .int .i64 proto, .bool true, .int .i64 sa, .int .i64 sp, .int .i64 da, .int .i64 dp, .bool true, .bool fin, .bool rst, .bool err, .int .i64 qsa, .int .i64 qsp, .int .i64 qda, .int .i64 qdp]] w fun e w' => e = .returned (.tuple #[]) ∧ w'.heap[g]? = some (.cells (mpC (marksF ⟨mp, ma, mi, mo, ps, st, idle, fo, fi⟩ true true fin rst) sv) 109 (0, 0)) ∧ Fr (fun k => k = g) w w' := by
  have hlt : g < w.heap.size := (Array.getElem?_eq_some_iff.1 hM).1
  have hne : g ≠ w.heap.size := by omega
  unfold mpC at hM
  dsimp only at hM
  have c5 : w.cell? ⟨g, 5, none⟩ = some (.int .i64 st) := by simp [World.cell?, hM]
  have c7 : w.cell? ⟨g, 7, none⟩ = some (.bool fo) := by simp [World.cell?, hM]
  have c8 : w.cell? ⟨g, 8, none⟩ = some (.bool fi) := by simp [World.cell?, hM]
  have z5 : ∀ o, w.frozen? ⟨g, o, none⟩ = false := by intro o; simp [World.frozen?, hM]
  have HM := hide hM
  clear hM
  cases fin <;> cases rst
  all_goals
    go_enter Try.func70, Try.ntmps70
    go_wp2
    refine wp_scope_fwd 0 rfl ?_
    go_wp2
    all_goals
      first
      | (go_step3; refine ⟨rfl, ?_⟩; go_wp2; (try simp only [Exit.noGoto]); go_end0)
      | ((try simp only [Exit.jump]); refine bodyPost_ret (results_none rfl _ _ _) rfl ?_)
    all_goals
      refine ⟨rfl, blkA ?_, Fr.alloc ?_ _⟩
      · have hb := unhide HM
        repeat (first | rw [setB hb] | rw [setB (setB hb _ _)] | rw [setB (setB (setB hb _ _) _ _)] | rw [setB (setB (setB (setB hb _ _) _ _) _ _)] | rw [setB (setB (setB (setB (setB hb _ _) _ _) _ _) _ _)] | rw [hb])
        simp [marksF, mpC, h1]
      · repeat (first | exact Fr.refl _ _ | refine Fr.setCell ?_ _ (fun _ => rfl))
end

section
open Go.RowKit

set_option maxHeartbeats 2000000 in
theorem takeMarks_out1 (g : Nat) (sv : Value) (tag proto : Int) (sa sp da dp : Int) (fin rst err : Bool) (qsa qsp qda qdp : Int) (mp ma mi mo : Int) (ps : List Int) (st idle : Int) (fo fi : Bool) (w : World) (hM : w.heap[g]? = some (.cells (mpC ⟨mp, ma, mi, mo, ps, st, idle, fo, fi⟩ sv) 109 (0, 0))) (h1 : (st == 3) = false) :
    Calls Try.prog 70 #[.pointer (some ⟨g, 0, none⟩), .agg #[.int .i64 tag, .int .i64 proto, .bool true, .int .i64 sa, .int .i64 sp, .int .i64 da, .int .i64 dp, .bool true, .bool fin, .bool rst, .bool err, .int .i64 qsa, .int .i64 qsp, .int .i64 qda, .int .i64 qdp]] w fun e w' => e = .returned (.tuple #[]) ∧ w'.heap[g]? = some (.cells (mpC (marksF ⟨mp, ma, mi, mo, ps, st, idle, fo, fi⟩ true true fin rst) sv) 109 (0, 0)) ∧ Fr (fun k => k = g) w w' := by
  have hlt : g < w.heap.size := (Array.getElem?_eq_some_iff.1 hM).1
  have hne : g ≠ w.heap.size := by omega
  unfold mpC at hM
  dsimp only at hM
  have c5 : w.cell? ⟨g, 5, none⟩ = some (.int .i64 st) := by simp [World.cell?, hM]
  have c7 : w.cell? ⟨g, 7, none⟩ = some (.bool fo) := by simp [World.cell?, hM]
  have c8 : w.cell? ⟨g, 8, none⟩ = some (.bool fi) := by simp [World.cell?, hM]
  have z5 : ∀ o, w.frozen? ⟨g, o, none⟩ = false := by intro o; simp [World.frozen?, hM]
  have HM := hide hM
  clear hM
  cases fin <;> cases rst <;> cases fi
  all_goals
    go_enter Try.func70, Try.ntmps70
    go_wp2
    refine wp_scope_fwd 0 rfl ?_
    go_wp2
    all_goals
      first
      | (go_step3; refine ⟨rfl, ?_⟩; go_wp2; (try simp only [Exit.noGoto]); go_end0)
      | ((try simp only [Exit.jump]); refine bodyPost_ret (results_none rfl _ _ _) rfl ?_)
    all_goals
      refine ⟨rfl, blkA ?_, Fr.alloc ?_ _⟩
      · have hb := unhide HM
        repeat (first | rw [setB hb] | rw [setB (setB hb _ _)] | rw [setB (setB (setB hb _ _) _ _)] | rw [setB (setB (setB (setB hb _ _) _ _) _ _)] | rw [setB (setB (setB (setB (setB hb _ _) _ _) _ _) _ _)] | rw [hb])
        simp [marksF, mpC, show ¬ st = 3 from by simpa using h1]
      · repeat (first | exact Fr.refl _ _ | refine Fr.setCell ?_ _ (fun _ => rfl))
end

section
open Go.RowKit

theorem eraseIdx_idxOf (a : Int) : ∀ l : List Int, l.eraseIdx (l.idxOf a) = l.erase a
  | [] => rfl
  | b :: r => by
    by_cases h : b = a
    · subst h
      simp
    · have h' : (b == a) = false := by simpa using h
      rw [List.idxOf_cons, h', List.erase_cons, h']
      simp [eraseIdx_idxOf a r]

set_option maxHeartbeats 1000000 in
set_option maxRecDepth 100000 in
theorem usePeer_old (g b cap n k : Nat) (m : Mp) (addr : Int) (w : World) (hM : Mem w g (.slice (some ⟨b, 0, none⟩) (n + 1) cap) m) (hlen : m.peers.length = n + 1) (hn4 : n < 4) (hk : k < n + 1) (hidx0 : idxF m.peers addr = k) :
    Calls Try.prog 69 #[.pointer (some ⟨g, 0, none⟩), .int .i64 addr] w fun e w' => e = .returned (.tuple #[]) ∧ Used w g (.slice (some ⟨b, 0, none⟩) (n + 1) cap) m (m.peers.eraseIdx k ++ [addr]) w' := by
  obtain ⟨i0, hi, hz0, hz1, hz2⟩ := info_parts info3
  have HI := hide (And.intro hi (And.intro hz0 (And.intro hz1 hz2)))
  clear hi hz0 hz1 hz2
  have hidx := hide (index_any _ m.peers addr w hM.2)
  obtain ⟨hlt, -, -, -, -, c4, -, -, -, -, z⟩ := hM.cells
  rw [hidx0] at hidx
  have HD := hide (delete_any b (n + 1) cap k m.peers w (by have := hM.2; rwa [hlen] at this) hk)
  rw [Nat.add_sub_cancel] at HD
  have HM := hide hM
  have HL : Hid ((m.peers.eraseIdx k).length = n) := by
    show (m.peers.eraseIdx k).length = n
    rw [List.length_eraseIdx, hlen, if_pos hk]
    rfl
  clear hM hidx0 hlen
  go_enter Try.func69, Try.ntmps69
  go_wp2_with (first | (go_at_call 104; refine (unhide hidx).mono ?_; rintro e w' ⟨rfl, hw⟩; symm at hw; subst hw; clear hidx) | (go_at_call 105; go_loud (refine (unhide HD).mono ?_; rintro e w1 ⟨rfl, hO1, hF1, hS1⟩; have hsd := hide (used_del (n' := n) (l := m.peers.eraseIdx k) (unhide HM) (unhide HL).symm hO1 hF1); have c41 : w1.cell? ⟨g, 4, none⟩ = some (.slice (some ⟨b, 0, none⟩) (n + 1) cap) := (by simp [World.cell?, (unhide hsd).1, mpC]); have z1 : ∀ o, w1.frozen? ⟨g, o, none⟩ = false := (by intro o; simp [World.frozen?, (unhide hsd).1]); have hs1 : g < w1.heap.size := (by rw [hS1]; exact hlt); clear hO1 hF1 HD)) | (at_builtin; go_loud (refine wpList_append_x _ rfl _ _ 50 rfl 0 3 i0 (.int .i64 0) 1 8 Try.underlying50 (unhide HI).1 (unhide HI).2.1 (unhide HI).2.2.1 (unhide HI).2.2.2 rfl (by decide) (.slice (some ⟨b, 0, none⟩) n cap) n (intsV (m.peers.eraseIdx k)) rfl (by have := (unhide hsd).2.1.2.alloc (.cells #[.int .i64 addr] 3); simpa [unhide HL] using this) ⟨w.heap.size, 0, none⟩ 1 1 [.int .i64 addr] rfl rfl (World.news_of_block (by simpa using blkN (w1.setCell ⟨g, 4, none⟩ (.slice (some ⟨b, 0, none⟩) n cap)) (.cells #[.int .i64 addr] 3) w.heap.size (by simp [World.setCell, hS1]))) (by simp [Value.oneCell']) (by omega) (by unfold maxLen; omega) (by omega) (Nat.zero_le _) ?_; intro g2 cap2 w3 hO3 hG3; have hst := hide (used_app (n := n + 1) (l := m.peers.eraseIdx k ++ [addr]) (unhide hsd).2.1 (by rw [List.length_append, unhide HL, List.length_singleton]) (by simpa [intsV] using hO3) hG3); have c4' : w3.cell? ⟨g, 4, none⟩ = some (.slice (some ⟨b, 0, none⟩) n cap) := (by simp [World.cell?, (unhide hst).1, mpC]); have z' : ∀ o, w3.frozen? ⟨g, o, none⟩ = false := (by intro o; simp [World.frozen?, (unhide hst).1]); clear hO3 hG3)))
  go_end0
  exact ⟨rfl, _, (unhide hsd).2.trans (unhide hst).2⟩

theorem usePeer_any (g : Nat) (sv : Value) (m : Mp) (addr : Int) (w : World) (hM : Mem w g sv m) (hlen : m.peers.length ≤ 4) :
    Calls Try.prog 69 #[.pointer (some ⟨g, 0, none⟩), .int .i64 addr] w fun e w' => e = .returned (.tuple #[]) ∧ Used w g sv m (useF m.peers addr) w' := by
  cases hc : m.peers.contains addr
  · have he : m.peers.erase addr = m.peers := List.erase_of_not_mem (by simpa using hc)
    by_cases h4 : m.peers.length < 4
    · have hu : useF m.peers addr = m.peers ++ [addr] := by
        unfold useF
        rw [he, if_neg (by simp; omega)]
      rw [hu]
      exact usePeer_new g sv m addr w hM h4 hc
    · have hu : useF m.peers addr = (m.peers ++ [addr]).eraseIdx 0 := by
        unfold useF
        rw [he, if_pos (by simp; omega)]
      rw [hu]
      exact usePeer_full g sv m addr w hM (by omega) hc
  · have hmem : addr ∈ m.peers := by simpa using hc
    have hk := List.idxOf_lt_length_of_mem hmem
    have he : m.peers.eraseIdx (m.peers.idxOf addr) = m.peers.erase addr := eraseIdx_idxOf _ _
    have hi : idxF m.peers addr = (m.peers.idxOf addr : Nat) := by unfold idxF; rw [hc]; rfl
    obtain ⟨n, hn⟩ : ∃ n, m.peers.length = n + 1 := ⟨m.peers.length - 1, by omega⟩
    have hu : useF m.peers addr = m.peers.eraseIdx (m.peers.idxOf addr) ++ [addr] := by
      unfold useF
      rw [he, if_neg]
      rw [List.length_append, ← he, List.length_eraseIdx, if_pos hk]
      simp
      omega
    rw [hu]
    rcases hM.2.2 with ⟨_, h0⟩ | ⟨b, cap, cur, rfl, _⟩
    · omega
    · rw [hn] at hM
      have key := usePeer_old g b cap n _ m addr w hM hn (by omega) (by omega) hi
      rw [hn]
      exact key

theorem takeMarks_any (g : Nat) (sv : Value) (m : Mp) (p : Pk) (w : World) (hM : w.heap[g]? = some (.cells (mpC m sv) 109 (0, 0))) :
    Calls Try.prog 70 #[.pointer (some ⟨g, 0, none⟩), .agg (pkC p)] w fun e w' => e = .returned (.tuple #[]) ∧ w'.heap[g]? = some (.cells (mpC (marksF m p.out p.syn p.fin p.rst) sv) 109 (0, 0)) ∧ Fr (fun k => k = g) w w' := by
  obtain ⟨tag, proto, out, sa, sp, da, dp, syn, fin, rst, err, qsa, qsp, qda, qdp⟩ := p
  obtain ⟨mp, ma, mi, mo, ps, st, idle, fo, fi⟩ := m
  cases out
  · by_cases h1 : st = 1
    · exact takeMarks_in1 g sv tag proto sa sp da dp syn fin rst err qsa qsp qda qdp mp ma mi mo ps st idle fo fi w hM h1
    · exact takeMarks_in0 g sv tag proto sa sp da dp syn fin rst err qsa qsp qda qdp mp ma mi mo ps st idle fo fi w hM (by simpa using h1)
  · cases syn
    · exact takeMarks_out0 g sv tag proto sa sp da dp fin rst err qsa qsp qda qdp mp ma mi mo ps st idle fo fi w hM
    · by_cases h1 : st = 3
      · exact takeMarks_out3 g sv tag proto sa sp da dp fin rst err qsa qsp qda qdp mp ma mi mo ps st idle fo fi w hM h1
      · exact takeMarks_out1 g sv tag proto sa sp da dp fin rst err qsa qsp qda qdp mp ma mi mo ps st idle fo fi w hM (by simpa using h1)
end

end Go.Proofs.Ytgpplekabohneaa
