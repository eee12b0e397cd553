/- 'passOut': no mapping; the mapping as it has become. -/
import Derived.Test.YtkbgjbbniaflhaaQk
import Derived.Test.YtkbgjbbniaflhaaQg
import Derived.Test.YtkbgjbbniaflhaaQh
namespace Go.Proofs.Ytkbgjbbniaflhaa
open Go.RowKit

set_option maxHeartbeats 1000000 in
theorem passOut_no {w : World} {S : Nat → Prop} {g hp hi : Nat} {T : Tn} {L : List Cl} (h : TenR w S g hp hi T L) (p : Pk) (v : Int) (hv : (v == 0) = false) (hC : ∀ W, Below w.heap.size w W → Hid (Calls Try.prog 61 #[.pointer (some ⟨g, 0, none⟩), .agg (pkC p)] W fun e w' => e = .returned (.tuple #[.pointer none, .int .i64 v]) ∧ Below W.heap.size W w')) :
    Calls Try.prog 44 #[.pointer (some ⟨g, 0, none⟩), .agg (pkC p)] w fun e w' => e = .returned (.tuple #[.agg (pkC pk0), .int .i64 v]) ∧ Below w.heap.size w w' := by
  have l1 := h.cells.1
  obtain ⟨tag, proto, out, sa, sp, da, dp, syn, fin, rst, err, qsa, qsp, qda, qdp⟩ := p
  unfold pkC at *
  dsimp only at *
  clear h
  go_enter Try.func44, Try.ntmps44
  go_wp2_with fail
  refine (unhide (hC _ (((Below.refl _ _).alloc (Nat.le_refl _) _).alloc (by simp) _))).mono ?_
  rintro e w1 ⟨rfl, hb1⟩
  obtain ⟨hc, hf⟩ := bcell hb1
  have hz : w.heap.size + 2 ≤ w1.heap.size := by have := hb1.size; simpa using this
  have HB : Hid (Below w.heap.size w w1) := Below.trans (((Below.refl _ _).alloc (Nat.le_refl _) _).alloc (by simp) _) (hb1.mono (by simp; omega))
  clear hb1 hC
  go_wp2
  refine bodyPost_ret (v := .tuple #[pk0V, .int .i64 v]) (by simp [results, Try.results44, go_sem, pk0V, hc]) rfl ⟨rfl, ?_⟩
  repeat (refine Below.setCell ?_ (by simp) _)
  exact unhide HB

/-- the mapping that a packet goes out by -/
structure By (w : World) (S : Nat → Prop) (g hp hi : Nat) (T1 : Tn) (x : Cl) (w1 : World) (S1 : Nat → Prop) (L1 : List Cl) : Prop where
  ten : TenR w1 S1 g hp hi T1 L1
  mem : x ∈ L1
  fr : Fr S w w1
  up : ∀ k, S k → S1 k
  down : ∀ k, S1 k → S k ∨ w.heap.size ≤ k

theorem useM_same (m : Mp) (p : Pk) : sameK (useM m p) m := by
  unfold useM
  split
  · exact marksF_same _ _ _ _ _
  · exact ⟨rfl, rfl, rfl, rfl⟩

theorem useM_peers (m : Mp) (p : Pk) : (useM m p).peers = useF m.peers p.da := by
  unfold useM
  split
  · exact marksF_peers _ _ _ _ _
  · rfl

theorem useM_idle (m : Mp) (p : Pk) : (useM m p).idle = 0 := by
  unfold useM
  split
  · exact marksF_idle _ _ _ _ _
  · rfl

/-- the mapping in use: from the world that found it to the one in which it lies as it has become -/
theorem By.used {w w1 w2 : World} {S S1 : Nat → Prop} {g hp hi : Nat} {T1 : Tn} {x : Cl} {L1 : List Cl} (h : By w S g hp hi T1 x w1 S1 L1) {sv : Value} {p : Pk} (hM : Mem w2 x.g sv (useM x.m p)) (hF : Fr (fun k => k = x.g ∨ x.sv.ownBlock = some k) w1 w2) (hb : ∀ b, sv.ownBlock = some b → x.sv.ownBlock = some b ∨ w1.heap.size ≤ b) :
    ∃ L2, TenR w2 (grow S1 w1 w2) g hp hi { T1 with maps := setM T1.maps (useM x.m p) } L2 ∧ Fr S w w2 ∧ (∀ k, S k → grow S1 w1 w2 k) ∧ ∀ k, grow S1 w1 w2 k → S k ∨ w.heap.size ≤ k := by
  obtain ⟨hxM, hxS, hxB⟩ := h.ten.mem x h.mem
  have hok := h.ten.good.ok x.m (by rw [← h.ten.maps]; exact List.mem_map.2 ⟨x, h.mem, rfl⟩)
  refine ⟨_, h.ten.upd h.mem hM (useM_same _ _) hF hb (by rw [useM_peers]; exact useF_length _ _ hok.2.2.2.2.1) (by rw [useM_idle]; exact Int.le_refl _) (by rw [useM_idle]; omega), ?_, fun k hk => .inl (h.up k hk), ?_⟩
  · refine h.fr.trans' hF ?_
    rintro k (hk | hk) hl
    · rcases h.down k (by rw [hk]; exact hxS) with h' | h'
      · exact h'
      · omega
    · rcases h.down k (hxB k hk) with h' | h'
      · exact h'
      · omega
  · rintro k (hk | hk)
    · exact h.down k hk
    · have := h.fr.size
      exact .inr (by omega)

theorem Fr.setL {a b : World} {n : Nat} (h : Fr (fun k => k = n ∨ k = n + 1) a b) {o : Nat} {u : Value} : Fr (fun k => k = n ∨ k = n + 1) a (b.setCell ⟨n, o, none⟩ u) := h.setCell u (fun _ => .inl rfl)
theorem Fr.setR {a b : World} {n : Nat} (h : Fr (fun k => k = n ∨ k = n + 1) a b) {o : Nat} {u : Value} : Fr (fun k => k = n ∨ k = n + 1) a (b.setCell ⟨n + 1, o, none⟩ u) := h.setCell u (fun _ => .inr rfl)
theorem Fr.setO {a b : World} {n : Nat} (h : Fr (fun k => k = n) a b) {o : Nat} {u : Value} : Fr (fun k => k = n) a (b.setCell ⟨n, o, none⟩ u) := h.setCell u (fun _ => rfl)

theorem far_of {w W0 : World} {S Sa : Nat → Prop} (hs : W0.heap.size = w.heap.size + 2) (hdn : ∀ k, Sa k → S k ∨ W0.heap.size ≤ k) (hS : ∀ k, S k → k < w.heap.size) : ∀ k, Sa k → k ≠ w.heap.size ∧ k ≠ w.heap.size + 1 := fun k hk => by
  rcases hdn k hk with h' | h'
  · have := hS k h'; omega
  · omega

/-- the end of a call that has worked on a packet of its own, in block n, and answers by block n + 1 -/
theorem finish {w W0 wa wz : World} {S Sa : Nat → Prop} {g hp hi : Nat} {T : Tn} {La : List Cl} (hbW : Below w.heap.size w W0) (hs : W0.heap.size = w.heap.size + 2) (hT : TenR wa Sa g hp hi T La) (hF : Fr S W0 wa) (hup : ∀ k, S k → Sa k) (hdn : ∀ k, Sa k → S k ∨ W0.heap.size ≤ k) (hS : ∀ k, S k → k < w.heap.size)
    (hz : Fr (fun k => k = w.heap.size ∨ k = w.heap.size + 1) wa wz) : After w S g hp hi T wz := by
  have hfar : ∀ k, Sa k → ¬ (k = w.heap.size ∨ k = w.heap.size + 1) := fun k hk => by
    rcases hdn k hk with h' | h'
    · have := hS k h'; omega
    · omega
  have hT' := hT.keep hz hfar
  have hF0 : Fr S w W0 := Fr.of_below hbW
  refine ⟨La, hT'.mono (fun k hk => ?_) (fun k hk => ?_), ?_⟩
  · rcases hdn k hk with h' | h'
    · exact .inl h'
    · exact .inr ⟨by omega, hT'.bound k hk⟩
  · rcases hk with hk | hk
    · exact hT'.bound k (hup k hk)
    · exact hk.2
  · refine (hF0.trans hF).trans' hz ?_
    rintro k (hk | hk) hl <;> omega

/-- a block that the inner call does not know -/
theorem turn_fin {w5 w6 w7 : World} {S2 : Nat → Prop} {n : Nat} {o : Obj} (h56 : Fr (fun k => k = n) w5 w6) (hrs5 : w5.heap[n + 1]? = some o) (hF7 : Fr S2 w6 w7) (hn : ¬ S2 (n + 1)) : w7.heap[n + 1]? = some o :=
  hF7.some (h56.some hrs5 (by omega)) hn

/-- .. and the end of such a call that has turned round -/
theorem finish2 {w W0 w5 w6 w7 wz : World} {S Sa : Nat → Prop} {g hp hi : Nat} {T : Tn} (hbW : Below w.heap.size w W0) (hs : W0.heap.size = w.heap.size + 2) (hF : Fr S W0 w5) (hup : ∀ k, S k → Sa k) (hdn : ∀ k, Sa k → S k ∨ W0.heap.size ≤ k) (hS : ∀ k, S k → k < w.heap.size) (_hbd : ∀ k, Sa k → k < w5.heap.size)
    (h56 : Fr (fun k => k = w.heap.size) w5 w6) (hA : After w6 Sa g hp hi T w7) (hz : Fr (fun k => k = w.heap.size ∨ k = w.heap.size + 1) w7 wz) : After w S g hp hi T wz := by
  obtain ⟨L7, hT7, hF7⟩ := hA
  have e1 := h56.size
  have e2 := hF.size
  -- the packet's block, turned in w6, is none of the caller's
  have hF6 : Fr (fun k => S k ∨ k = w.heap.size) W0 w7 := by
    refine (hF.mono (fun k hk _ => .inl hk)).trans' (Y := fun k => k = w.heap.size ∨ Sa k) ?_ ?_
    · exact (h56.mono (fun k hk _ => .inl hk)).trans' hF7 (fun k hk _ => .inr hk)
    · rintro k (hk | hk) hl
      · exact .inr hk
      · rcases hdn k hk with h' | h'
        · exact .inl h'
        · omega
  have hdn' : ∀ k, grow Sa w6 w7 k → S k ∨ W0.heap.size ≤ k := by
    rintro k (hk | hk)
    · exact hdn k hk
    · exact .inr (by omega)
  have hfar : ∀ k, grow Sa w6 w7 k → ¬ (k = w.heap.size ∨ k = w.heap.size + 1) := fun k hk => by
    rcases hdn' k hk with h' | h'
    · have := hS k h'; omega
    · omega
  have hT' := hT7.keep hz hfar
  refine ⟨L7, hT'.mono (fun k hk => ?_) (fun k hk => ?_), ?_⟩
  · rcases hdn' k hk with h' | h'
    · exact .inl h'
    · exact .inr ⟨by omega, hT'.bound k hk⟩
  · rcases hk with hk | hk
    · exact hT'.bound k (.inl (hup k hk))
    · exact hk.2
  · have hF0 : Fr S w W0 := Fr.of_below hbW
    refine (hF0.trans' hF6 ?_).trans' hz ?_
    · rintro k (hk | hk) hl
      · exact hk
      · omega
    · rintro k (hk | hk) hl <;> omega

end Go.Proofs.Ytkbgjbbniaflhaa
