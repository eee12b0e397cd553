/- A tenant's mappings: found, made. -/
import Derived.Test.YtgpplekabohneaaQr
namespace Go.Proofs.Ytgpplekabohneaa
section
open Go.RowKit
open Go.ChangeMaps (setBlock)

set_option maxHeartbeats 1000000 in
theorem passIn_filt {w : World} {S : Nat → Prop} {g hp hi : Nat} {T : Tn} {L : List Cl} (h : TenR w S g hp hi T L) (p : Pk) (he : p.da = T.outer) {x : Cl} (hx : x ∈ L) (hf : T.maps.find? (isP p.proto p.dp) = some x.m) (hc : x.m.peers.contains p.sa = false) :
    Calls Try.prog 50 #[.pointer (some ⟨g, 0, none⟩), .agg (pkC p)] w fun e w' => e = .returned (.tuple #[.agg (pkC pk0), .int .i64 5]) ∧ Below w.heap.size w w' := by
  have hC : ∀ (w1 : World), Below w.heap.size w w1 → Hid (Calls Try.prog 67 #[.pointer (some ⟨g, 0, none⟩), .int .i64 p.proto, .agg #[.int .i64 p.da, .int .i64 p.dp]] w1 fun e w' => e = .returned (.tuple #[.pointer (some ⟨x.g, 0, none⟩), .bool true]) ∧ Below w1.heap.size w1 w') := by
    intro w1 hb
    rw [he]
    exact behind_some (h.new hb) p.proto p.dp hx hf
  have hP : ∀ (w1 : World), Below w.heap.size w w1 → Hid (Calls Try.prog 65 #[.pointer (some ⟨x.g, 0, none⟩), .int .i64 p.sa] w1 fun e w' => e = .returned (.bool false) ∧ w' = w1) := by
    intro w1 hb
    rw [← hc]
    exact hasPeer_any x.g x.sv x.m p.sa w1 ((h.new hb).mem x hx).1
  have l1 := h.cells.1
  obtain ⟨tag, proto, out, sa, sp, da, dp, syn, fin, rst, err, qsa, qsp, qda, qdp⟩ := p
  unfold pkC at *
  dsimp only at *
  clear h he hx hf hc
  go_enter Try.func50, Try.ntmps50
  go_wp2_with fail
  refine (unhide (hC _ (((Below.refl _ _).alloc (Nat.le_refl _) _).alloc (by simp) _))).mono ?_
  rintro e w1 ⟨rfl, hb1⟩
  obtain ⟨hc, hf⟩ := bcell hb1
  have hz : w.heap.size + 2 ≤ w1.heap.size := by have := hb1.size; simpa using this
  have HB : Hid (Below w.heap.size w w1) := Below.trans (((Below.refl _ _).alloc (Nat.le_refl _) _).alloc (by simp) _) (hb1.mono (by simp; omega))
  clear hb1 hC
  go_wp2_with (go_at_call 65; refine (unhide (hP _ (unhide HB))).mono ?_; rintro e w' ⟨rfl, hw⟩; symm at hw; subst hw)
  refine bodyPost_ret (v := .tuple #[pk0V, .int .i64 5]) (by simp [results, Try.results50, go_sem, pk0V, hc]) rfl ⟨rfl, ?_⟩
  repeat (refine Below.setCell ?_ (by simp) _)
  exact unhide HB

set_option maxHeartbeats 2000000 in
theorem passIn_ok {w : World} {S : Nat → Prop} {g hp hi : Nat} {T : Tn} {L : List Cl} (h : TenR w S g hp hi T L) (p : Pk) (he : p.da = T.outer) {x : Cl} (hx : x ∈ L) (hf : T.maps.find? (isP p.proto p.dp) = some x.m) (hc : x.m.peers.contains p.sa = true) (hp2 : (p.proto == 2) = false) :
    Calls Try.prog 50 #[.pointer (some ⟨g, 0, none⟩), .agg (pkC p)] w fun e w' => e = .returned (.tuple #[.agg (pkC { p with da := x.m.ia, dp := x.m.ip }), .int .i64 0]) ∧ Below w.heap.size w w' := by
  have hC : ∀ (w1 : World), Below w.heap.size w w1 → Hid (Calls Try.prog 67 #[.pointer (some ⟨g, 0, none⟩), .int .i64 p.proto, .agg #[.int .i64 p.da, .int .i64 p.dp]] w1 fun e w' => e = .returned (.tuple #[.pointer (some ⟨x.g, 0, none⟩), .bool true]) ∧ Below w1.heap.size w1 w') := by
    intro w1 hb
    rw [he]
    exact behind_some (h.new hb) p.proto p.dp hx hf
  have hP : ∀ (w1 : World), Below w.heap.size w w1 → Hid (Calls Try.prog 65 #[.pointer (some ⟨x.g, 0, none⟩), .int .i64 p.sa] w1 fun e w' => e = .returned (.bool true) ∧ w' = w1) := by
    intro w1 hb
    rw [← hc]
    exact hasPeer_any x.g x.sv x.m p.sa w1 ((h.new hb).mem x hx).1
  have hI : ∀ (w1 : World), Below w.heap.size w w1 → w1.cell? ⟨x.g, 1, none⟩ = some (.int .i64 x.m.ia) ∧ w1.cell? ⟨x.g, 2, none⟩ = some (.int .i64 x.m.ip) := fun w1 hb =>
    ⟨((h.new hb).mem x hx).1.cells.2.2.1, ((h.new hb).mem x hx).1.cells.2.2.2.1⟩
  have l1 := h.cells.1
  have l2 := (h.mem x hx).1.cells.1
  obtain ⟨tag, proto, out, sa, sp, da, dp, syn, fin, rst, err, qsa, qsp, qda, qdp⟩ := p
  unfold pkC at *
  dsimp only at *
  clear h he hx hf hc
  go_enter Try.func50, Try.ntmps50
  go_wp2_with fail
  refine (unhide (hC _ (((Below.refl _ _).alloc (Nat.le_refl _) _).alloc (by simp) _))).mono ?_
  rintro e w1 ⟨rfl, hb1⟩
  have hpk : w1.heap[w.heap.size]? = some (.cells (pkC ⟨tag, proto, out, sa, sp, da, dp, syn, fin, rst, err, qsa, qsp, qda, qdp⟩) 38 (0, 0)) := (hb1.block _ (by simp; omega)).trans (blkA (blkN _ _ _ rfl))
  have hrs : w1.heap[w.heap.size + 1]? = some (.cells (pkC pk0) 38 (0, 0)) := (hb1.block _ (by simp)).trans (blkN _ _ _ (by simp))
  obtain ⟨a0, a1, a2, a3, a4, a5, a6, a7, a8, a9, a10, a11, a12, a13, a14, az⟩ := pk_cells hpk
  obtain ⟨b0, b1, b2, b3, b4, b5, b6, b7, b8, b9, b10, b11, b12, b13, b14, bz⟩ := pk_cells hrs
  dsimp only [pk0] at *
  clear hpk hrs
  have hz : w.heap.size + 2 ≤ w1.heap.size := by have := hb1.size; simpa using this
  have HB : Hid (Below w.heap.size w w1) := Below.trans (((Below.refl _ _).alloc (Nat.le_refl _) _).alloc (by simp) _) (hb1.mono (by simp; omega))
  obtain ⟨i1, i2⟩ := hI _ (unhide HB)
  clear hb1 hC hI
  go_wp2_with (go_at_call 65; refine (unhide (hP _ (unhide HB))).mono ?_; rintro e w' ⟨rfl, hw⟩; symm at hw; subst hw)
  refine bodyPost_ret (v := .tuple #[.agg #[.int .i64 tag, .int .i64 proto, .bool out, .int .i64 sa, .int .i64 sp, .int .i64 x.m.ia, .int .i64 x.m.ip, .bool syn, .bool fin, .bool rst, .bool err, .int .i64 qsa, .int .i64 qsp, .int .i64 qda, .int .i64 qdp], .int .i64 0]) (by simp [results, Try.results50, go_sem, b0, b1, b2, b3, b4, b5, b6, b7, b8, b9, b10, b11, b12, b13, b14]) rfl ⟨rfl, ?_⟩
  repeat (refine Below.setCell ?_ (by simp) _)
  exact unhide HB
end

section
open Go.RowKit
open Go.ChangeMaps (setBlock)

set_option maxHeartbeats 2000000 in
theorem passIn_str {w : World} {S : Nat → Prop} {g hp hi : Nat} {T : Tn} {L : List Cl} (h : TenR w S g hp hi T L) (p : Pk) (he : p.da = T.outer) {x : Cl} (hx : x ∈ L) (hf : T.maps.find? (isP p.proto p.dp) = some x.m) (hc : x.m.peers.contains p.sa = true) (hp2 : p.proto = 2) :
    Calls Try.prog 50 #[.pointer (some ⟨g, 0, none⟩), .agg (pkC p)] w fun e w' => e = .returned (.tuple #[.agg (pkC { p with da := x.m.ia, dp := x.m.ip }), .int .i64 0]) ∧ w'.heap[x.g]? = some (.cells (mpC { marksF x.m p.out p.syn p.fin p.rst with idle := 0 } x.sv) 109 (0, 0)) ∧ Fr (fun k => k = x.g) w w' := by
  have hC : ∀ (w1 : World), Below w.heap.size w w1 → Hid (Calls Try.prog 67 #[.pointer (some ⟨g, 0, none⟩), .int .i64 p.proto, .agg #[.int .i64 p.da, .int .i64 p.dp]] w1 fun e w' => e = .returned (.tuple #[.pointer (some ⟨x.g, 0, none⟩), .bool true]) ∧ Below w1.heap.size w1 w') := by
    intro w1 hb
    rw [he]
    exact behind_some (h.new hb) p.proto p.dp hx hf
  have hP : ∀ (w1 : World), Below w.heap.size w w1 → Hid (Calls Try.prog 65 #[.pointer (some ⟨x.g, 0, none⟩), .int .i64 p.sa] w1 fun e w' => e = .returned (.bool true) ∧ w' = w1) := by
    intro w1 hb
    rw [← hc]
    exact hasPeer_any x.g x.sv x.m p.sa w1 ((h.new hb).mem x hx).1
  have hI : ∀ (w1 : World), Below w.heap.size w w1 → w1.cell? ⟨x.g, 1, none⟩ = some (.int .i64 x.m.ia) ∧ w1.cell? ⟨x.g, 2, none⟩ = some (.int .i64 x.m.ip) := fun w1 hb =>
    ⟨((h.new hb).mem x hx).1.cells.2.2.1, ((h.new hb).mem x hx).1.cells.2.2.2.1⟩
  have hK : ∀ (w1 : World), Below w.heap.size w w1 → Hid (Calls Try.prog 70 #[.pointer (some ⟨x.g, 0, none⟩), .agg (pkC p)] w1 fun e w' => e = .returned (.tuple #[]) ∧ w'.heap[x.g]? = some (.cells (mpC (marksF x.m p.out p.syn p.fin p.rst) x.sv) 109 (0, 0)) ∧ Fr (fun k => k = x.g) w1 w') := by
    intro w1 hb
    exact takeMarks_any x.g x.sv x.m p w1 ((h.new hb).mem x hx).1.1
  have l1 := h.cells.1
  have l2 := (h.mem x hx).1.cells.1
  obtain ⟨tag, proto, out, sa, sp, da, dp, syn, fin, rst, err, qsa, qsp, qda, qdp⟩ := p
  unfold pkC at *
  dsimp only at *
  subst hp2
  obtain ⟨n1, n2, n3, n4⟩ := marksF_same x.m out syn fin rst
  generalize marksF x.m out syn fin rst = mm at *
  clear h he hx hf hc
  go_enter Try.func50, Try.ntmps50
  go_wp2_with fail
  refine (unhide (hC _ (((Below.refl _ _).alloc (Nat.le_refl _) _).alloc (by simp) _))).mono ?_
  rintro e w1 ⟨rfl, hb1⟩
  have hpk : w1.heap[w.heap.size]? = some (.cells (pkC ⟨tag, 2, out, sa, sp, da, dp, syn, fin, rst, err, qsa, qsp, qda, qdp⟩) 38 (0, 0)) := (hb1.block _ (by simp; omega)).trans (blkA (blkN _ _ _ rfl))
  have hrs : w1.heap[w.heap.size + 1]? = some (.cells (pkC pk0) 38 (0, 0)) := (hb1.block _ (by simp)).trans (blkN _ _ _ (by simp))
  obtain ⟨u0, u1, u2, u3, u4, u5, u6, u7, u8, u9, u10, u11, u12, u13, u14, uz⟩ := pk_cells hpk
  dsimp only at *
  have hz : w.heap.size + 2 ≤ w1.heap.size := by have := hb1.size; simpa using this
  have HB : Hid (Below w.heap.size w w1) := Below.trans (((Below.refl _ _).alloc (Nat.le_refl _) _).alloc (by simp) _) (hb1.mono (by simp; omega))
  clear hb1 hC hI
  have HPK := hide hpk
  have HRS := hide hrs
  clear hpk hrs
  go_wp2_with (first | (go_at_call 65; refine (unhide (hP _ (unhide HB))).mono ?_; rintro e w' ⟨rfl, hw⟩; symm at hw; subst hw) | fail)
  refine (unhide (hK _ (unhide HB))).mono ?_
  rintro e w2 ⟨rfl, hm2, hF2⟩
  have hpk2 := hF2.some (unhide HPK) (by omega)
  have hrs2 := hF2.some (unhide HRS) (by omega)
  have hs2 := hF2.size
  obtain ⟨a0, a1, a2, a3, a4, a5, a6, a7, a8, a9, a10, a11, a12, a13, a14, az⟩ := pk_cells hpk2
  obtain ⟨b0, b1, b2, b3, b4, b5, b6, b7, b8, b9, b10, b11, b12, b13, b14, bz⟩ := pk_cells hrs2
  have m1 : w2.cell? ⟨x.g, 1, none⟩ = some (.int .i64 x.m.ia) := by simp [World.cell?, hm2, mpC, n2]
  have m2 : w2.cell? ⟨x.g, 2, none⟩ = some (.int .i64 x.m.ip) := by simp [World.cell?, hm2, mpC, n3]
  have m6 : w2.cell? ⟨x.g, 6, none⟩ = some (.int .i64 mm.idle) := by simp [World.cell?, hm2, mpC]
  have mz : ∀ o, w2.frozen? ⟨x.g, o, none⟩ = false := by intro o; simp [World.frozen?, hm2]
  dsimp only [pk0] at *
  have HM2 := hide hm2
  have HF2 : Hid (Fr (fun k => k = x.g) w w2) := Fr.trans (Fr.of_below (unhide HB)) hF2
  have hx1 : x.g ≠ w.heap.size := by omega
  have hx2 : x.g ≠ w.heap.size + 1 := by omega
  clear hm2 hF2 hpk2 hrs2 n1 n2 n3 n4 hK hP
  go_wp2
  refine bodyPost_ret (v := .tuple #[.agg #[.int .i64 tag, .int .i64 2, .bool out, .int .i64 sa, .int .i64 sp, .int .i64 x.m.ia, .int .i64 x.m.ip, .bool syn, .bool fin, .bool rst, .bool err, .int .i64 qsa, .int .i64 qsp, .int .i64 qda, .int .i64 qdp], .int .i64 0]) (by simp [results, Try.results50, go_sem, b0, b1, b2, b3, b4, b5, b6, b7, b8, b9, b10, b11, b12, b13, b14]) rfl ⟨rfl, ?_, ?_⟩
  · simp only [Below.heap_setCell, hx1, hx2, ne_eq, not_false_eq_true]
    rw [setB (unhide HM2)]
    simp [mpC]
  · repeat (refine Fr.setNew ?_ (Nat.le_succ w.heap.size))
    repeat (refine Fr.setNew ?_ (Nat.le_refl w.heap.size))
    exact Fr.setCell (unhide HF2) _ (fun _ => rfl)
end

section
open Go.RowKit

theorem TenR.updAfter {w w' : World} {S : Nat → Prop} {g hp hi : Nat} {T : Tn} {L : List Cl} (h : TenR w S g hp hi T L) {x : Cl} (hx : x ∈ L) {m' : Mp} (hb : w'.heap[x.g]? = some (.cells (mpC m' x.sv) 109 (0, 0))) (hs : sameK m' x.m) (hpe : m'.peers = x.m.peers)
    (hF : Fr (fun k => k = x.g) w w') (h0 : 0 ≤ m'.idle) (h1 : m'.idle < 1000) : After w S g hp hi { T with maps := setM T.maps m' } w' := by
  obtain ⟨hxM, hxS, hxB⟩ := h.mem x hx
  have hok := h.good.ok x.m (by rw [← h.maps]; exact List.mem_map.2 ⟨x, hx, rfl⟩)
  have hM : Mem w' x.g x.sv m' := ⟨hb, by rw [hpe]; exact ownsRow_keep hxM.2 hF (fun b hb' e => row_ne hxM.2 hxM.1 (by decide) (e ▸ hb'))⟩
  exact ⟨_, h.upd hx hM hs (hF.mono (fun k hk _ => .inl hk)) (fun b hb' => .inl hb') (by rw [hpe]; exact hok.2.2.2.2.1) h0 h1, hF.mono (fun k hk _ => by rw [hk]; exact hxS)⟩

theorem passIn_any {w : World} {S : Nat → Prop} {g hp hi : Nat} {T : Tn} {L : List Cl} (h : TenR w S g hp hi T L) (p : Pk) :
    Calls Try.prog 50 #[.pointer (some ⟨g, 0, none⟩), .agg (pkC p)] w fun e w' => e = .returned (.tuple #[.agg (pkC (inF T p).2.1), .int .i64 (inF T p).2.2]) ∧ After w S g hp hi (inF T p).1 w' := by
  unfold inF
  by_cases he : p.da = T.outer
  · rw [if_pos he]
    cases hf : T.maps.find? (isP p.proto p.dp) with
    | none =>
      refine (passIn_far h p (.inr ⟨he, hf⟩)).mono ?_
      rintro e w' ⟨rfl, hb⟩
      exact ⟨rfl, h.after hb⟩
    | some m =>
      obtain ⟨x, hx, rfl⟩ := h.ofFind hf
      dsimp only
      cases hc : x.m.peers.contains p.sa
      · refine (passIn_filt h p he hx hf hc).mono ?_
        rintro e w' ⟨rfl, hb⟩
        exact ⟨rfl, h.after hb⟩
      · by_cases h2 : p.proto = 2
        · refine (passIn_str h p he hx hf hc h2).mono ?_
          rintro e w' ⟨rfl, hb, hF⟩
          refine ⟨rfl, ?_⟩
          simp only [if_true, h2]
          have hsm := marksF_same x.m p.out p.syn p.fin p.rst
          exact h.updAfter hx hb ⟨hsm.1, hsm.2.1, hsm.2.2.1, hsm.2.2.2⟩ (marksF_peers _ _ _ _ _) hF (Int.le_refl _) (show (0 : Int) < 1000 by omega)
        · refine (passIn_ok h p he hx hf hc (by simpa using h2)).mono ?_
          rintro e w' ⟨rfl, hb⟩
          refine ⟨rfl, ?_⟩
          simp only [if_true, h2, if_false]
          exact h.after hb
  · rw [if_neg he]
    refine (passIn_far h p (.inl he)).mono ?_
    rintro e w' ⟨rfl, hb⟩
    exact ⟨rfl, h.after hb⟩
end

section
open Go.RowKit

set_option maxHeartbeats 1000000 in
theorem passOut_no {w : World} {S : Nat → Prop} {g hp hi : Nat} {T : Tn} {L : List Cl} (h : TenR w S g hp hi T L) (p : Pk) (v : Int) (hv : (v == 0) = false) (hC : ∀ W, Below w.heap.size w W → Hid (Calls Try.prog 68 #[.pointer (some ⟨g, 0, none⟩), .agg (pkC p)] W fun e w' => e = .returned (.tuple #[.pointer none, .int .i64 v]) ∧ Below W.heap.size W w')) :
    Calls Try.prog 49 #[.pointer (some ⟨g, 0, none⟩), .agg (pkC p)] w fun e w' => e = .returned (.tuple #[.agg (pkC pk0), .int .i64 v]) ∧ Below w.heap.size w w' := by
  have l1 := h.cells.1
  obtain ⟨tag, proto, out, sa, sp, da, dp, syn, fin, rst, err, qsa, qsp, qda, qdp⟩ := p
  unfold pkC at *
  dsimp only at *
  clear h
  go_enter Try.func49, Try.ntmps49
  go_wp2_with fail
  refine (unhide (hC _ (((Below.refl _ _).alloc (Nat.le_refl _) _).alloc (by simp) _))).mono ?_
  rintro e w1 ⟨rfl, hb1⟩
  obtain ⟨hc, hf⟩ := bcell hb1
  have hz : w.heap.size + 2 ≤ w1.heap.size := by have := hb1.size; simpa using this
  have HB : Hid (Below w.heap.size w w1) := Below.trans (((Below.refl _ _).alloc (Nat.le_refl _) _).alloc (by simp) _) (hb1.mono (by simp; omega))
  clear hb1 hC
  go_wp2
  refine bodyPost_ret (v := .tuple #[pk0V, .int .i64 v]) (by simp [results, Try.results49, go_sem, pk0V, hc]) rfl ⟨rfl, ?_⟩
  repeat (refine Below.setCell ?_ (by simp) _)
  exact unhide HB

/-- the mapping that a packet goes out by -/
structure By (w : World) (S : Nat → Prop) (g hp hi : Nat) (T1 : Tn) (x : Cl) (w1 : World) (S1 : Nat → Prop) (L1 : List Cl) : Prop where
  ten : TenR w1 S1 g hp hi T1 L1
  mem : x ∈ L1
  fr : Fr S w w1
  up : ∀ k, S k → S1 k
  down : ∀ k, S1 k → S k ∨ w.heap.size ≤ k

theorem useM_same (m : Mp) (p : Pk) : sameK (useM m p) m := by
  unfold useM
  split
  · exact marksF_same _ _ _ _ _
  · exact ⟨rfl, rfl, rfl, rfl⟩

theorem useM_peers (m : Mp) (p : Pk) : (useM m p).peers = useF m.peers p.da := by
  unfold useM
  split
  · exact marksF_peers _ _ _ _ _
  · rfl

theorem useM_idle (m : Mp) (p : Pk) : (useM m p).idle = 0 := by
  unfold useM
  split
  · exact marksF_idle _ _ _ _ _
  · rfl

/-- the mapping in use: from the world that found it to the one in which it lies as it has become -/
theorem By.used {w w1 w2 : World} {S S1 : Nat → Prop} {g hp hi : Nat} {T1 : Tn} {x : Cl} {L1 : List Cl} (h : By w S g hp hi T1 x w1 S1 L1) {sv : Value} {p : Pk} (hM : Mem w2 x.g sv (useM x.m p)) (hF : Fr (fun k => k = x.g ∨ x.sv.ownBlock = some k) w1 w2) (hb : ∀ b, sv.ownBlock = some b → x.sv.ownBlock = some b ∨ w1.heap.size ≤ b) :
    ∃ L2, TenR w2 (grow S1 w1 w2) g hp hi { T1 with maps := setM T1.maps (useM x.m p) } L2 ∧ Fr S w w2 ∧ (∀ k, S k → grow S1 w1 w2 k) ∧ ∀ k, grow S1 w1 w2 k → S k ∨ w.heap.size ≤ k := by
  obtain ⟨hxM, hxS, hxB⟩ := h.ten.mem x h.mem
  have hok := h.ten.good.ok x.m (by rw [← h.ten.maps]; exact List.mem_map.2 ⟨x, h.mem, rfl⟩)
  refine ⟨_, h.ten.upd h.mem hM (useM_same _ _) hF hb (by rw [useM_peers]; exact useF_length _ _ hok.2.2.2.2.1) (by rw [useM_idle]; exact Int.le_refl _) (by rw [useM_idle]; omega), ?_, fun k hk => .inl (h.up k hk), ?_⟩
  · refine h.fr.trans' hF ?_
    rintro k (hk | hk) hl
    · rcases h.down k (by rw [hk]; exact hxS) with h' | h'
      · exact h'
      · omega
    · rcases h.down k (hxB k hk) with h' | h'
      · exact h'
      · omega
  · rintro k (hk | hk)
    · exact h.down k hk
    · have := h.fr.size
      exact .inr (by omega)

theorem Fr.setL {a b : World} {n : Nat} (h : Fr (fun k => k = n ∨ k = n + 1) a b) {o : Nat} {u : Value} : Fr (fun k => k = n ∨ k = n + 1) a (b.setCell ⟨n, o, none⟩ u) := h.setCell u (fun _ => .inl rfl)
theorem Fr.setR {a b : World} {n : Nat} (h : Fr (fun k => k = n ∨ k = n + 1) a b) {o : Nat} {u : Value} : Fr (fun k => k = n ∨ k = n + 1) a (b.setCell ⟨n + 1, o, none⟩ u) := h.setCell u (fun _ => .inr rfl)
theorem Fr.setO {a b : World} {n : Nat} (h : Fr (fun k => k = n) a b) {o : Nat} {u : Value} : Fr (fun k => k = n) a (b.setCell ⟨n, o, none⟩ u) := h.setCell u (fun _ => rfl)

theorem far_of {w W0 : World} {S Sa : Nat → Prop} (hs : W0.heap.size = w.heap.size + 2) (hdn : ∀ k, Sa k → S k ∨ W0.heap.size ≤ k) (hS : ∀ k, S k → k < w.heap.size) : ∀ k, Sa k → k ≠ w.heap.size ∧ k ≠ w.heap.size + 1 := fun k hk => by
  rcases hdn k hk with h' | h'
  · have := hS k h'; omega
  · omega

/-- the end of a call that has worked on a packet of its own, in block n, and answers by block n + 1 -/
theorem finish {w W0 wa wz : World} {S Sa : Nat → Prop} {g hp hi : Nat} {T : Tn} {La : List Cl} (hbW : Below w.heap.size w W0) (hs : W0.heap.size = w.heap.size + 2) (hT : TenR wa Sa g hp hi T La) (hF : Fr S W0 wa) (hup : ∀ k, S k → Sa k) (hdn : ∀ k, Sa k → S k ∨ W0.heap.size ≤ k) (hS : ∀ k, S k → k < w.heap.size)
    (hz : Fr (fun k => k = w.heap.size ∨ k = w.heap.size + 1) wa wz) : After w S g hp hi T wz := by
  have hfar : ∀ k, Sa k → ¬ (k = w.heap.size ∨ k = w.heap.size + 1) := fun k hk => by
    rcases hdn k hk with h' | h'
    · have := hS k h'; omega
    · omega
  have hT' := hT.keep hz hfar
  have hF0 : Fr S w W0 := Fr.of_below hbW
  refine ⟨La, hT'.mono (fun k hk => ?_) (fun k hk => ?_), ?_⟩
  · rcases hdn k hk with h' | h'
    · exact .inl h'
    · exact .inr ⟨by omega, hT'.bound k hk⟩
  · rcases hk with hk | hk
    · exact hT'.bound k (hup k hk)
    · exact hk.2
  · refine (hF0.trans hF).trans' hz ?_
    rintro k (hk | hk) hl <;> omega

/-- a block that the inner call does not know -/
theorem turn_fin {w5 w6 w7 : World} {S2 : Nat → Prop} {n : Nat} {o : Obj} (h56 : Fr (fun k => k = n) w5 w6) (hrs5 : w5.heap[n + 1]? = some o) (hF7 : Fr S2 w6 w7) (hn : ¬ S2 (n + 1)) : w7.heap[n + 1]? = some o :=
  hF7.some (h56.some hrs5 (by omega)) hn

/-- .. and the end of such a call that has turned round -/
theorem finish2 {w W0 w5 w6 w7 wz : World} {S Sa : Nat → Prop} {g hp hi : Nat} {T : Tn} (hbW : Below w.heap.size w W0) (hs : W0.heap.size = w.heap.size + 2) (hF : Fr S W0 w5) (hup : ∀ k, S k → Sa k) (hdn : ∀ k, Sa k → S k ∨ W0.heap.size ≤ k) (hS : ∀ k, S k → k < w.heap.size) (_hbd : ∀ k, Sa k → k < w5.heap.size)
    (h56 : Fr (fun k => k = w.heap.size) w5 w6) (hA : After w6 Sa g hp hi T w7) (hz : Fr (fun k => k = w.heap.size ∨ k = w.heap.size + 1) w7 wz) : After w S g hp hi T wz := by
  obtain ⟨L7, hT7, hF7⟩ := hA
  have e1 := h56.size
  have e2 := hF.size
  -- the packet's block, turned in w6, is none of the caller's
  have hF6 : Fr (fun k => S k ∨ k = w.heap.size) W0 w7 := by
    refine (hF.mono (fun k hk _ => .inl hk)).trans' (Y := fun k => k = w.heap.size ∨ Sa k) ?_ ?_
    · exact (h56.mono (fun k hk _ => .inl hk)).trans' hF7 (fun k hk _ => .inr hk)
    · rintro k (hk | hk) hl
      · exact .inr hk
      · rcases hdn k hk with h' | h'
        · exact .inl h'
        · omega
  have hdn' : ∀ k, grow Sa w6 w7 k → S k ∨ W0.heap.size ≤ k := by
    rintro k (hk | hk)
    · exact hdn k hk
    · exact .inr (by omega)
  have hfar : ∀ k, grow Sa w6 w7 k → ¬ (k = w.heap.size ∨ k = w.heap.size + 1) := fun k hk => by
    rcases hdn' k hk with h' | h'
    · have := hS k h'; omega
    · omega
  have hT' := hT7.keep hz hfar
  refine ⟨L7, hT'.mono (fun k hk => ?_) (fun k hk => ?_), ?_⟩
  · rcases hdn' k hk with h' | h'
    · exact .inl h'
    · exact .inr ⟨by omega, hT'.bound k hk⟩
  · rcases hk with hk | hk
    · exact hT'.bound k (.inl (hup k hk))
    · exact hk.2
  · have hF0 : Fr S w W0 := Fr.of_below hbW
    refine (hF0.trans' hF6 ?_).trans' hz ?_
    · rintro k (hk | hk) hl
      · exact hk
      · omega
    · rintro k (hk | hk) hl <;> omega
end

end Go.Proofs.Ytgpplekabohneaa
