/- 'errors' of the document. -/
import Derived.Test.YtgpplekabohneaaXf
namespace Go.Proofs.Ytgpplekabohneaa
open Go.RowKit

section
variable {w : World} {S : Nat → Prop} {r : Nat} {tv lv : Value} {ts : List Ten} {L : List RCl}

set_option maxHeartbeats 2000000 in
set_option maxRecDepth 100000 in
theorem rerrO_none (h : RefR w S r tv lv ts L) {t : Nat} (ht : t < ts.length) (tag proto sa sp da dp : Int) (syn fin rst err : Bool) (qsa qsp qda qdp : Int) (hf : L.find? (atI t proto qda qdp) = none) :
    Calls Try.prog 96 #[.pointer (some ⟨r, 0, none⟩), .int .i64 t, .agg #[.int .i64 tag, .int .i64 proto, .bool true, .int .i64 sa, .int .i64 sp, .int .i64 da, .int .i64 dp, .bool syn, .bool fin, .bool rst, .bool err, .int .i64 qsa, .int .i64 qsp, .int .i64 qda, .int .i64 qdp]] w fun e w' => e = .returned (.tuple #[.agg #[.int .i64 tag, .int .i64 proto, .bool true, .int .i64 sa, .int .i64 sp, .int .i64 da, .int .i64 dp, .bool syn, .bool fin, .bool rst, .bool err, .int .i64 qsa, .int .i64 qsp, .int .i64 qda, .int .i64 qdp], .int .i64 4]) ∧ Below w.heap.size w w' := by
  obtain ⟨c0, -, -, hr⟩ := h.cells
  obtain ⟨b, cap, rfl, k1, k2, hb, -, a1, -, -⟩ := h.ten ht
  unfold maxLen at k2
  have HC := fun W (hW : Below w.heap.size w W) => hide (byInside_any (h.new hW) t proto qda qdp)
  rw [hf] at HC
  clear h hf
  go_enter Try.func96, Try.ntmps96
  go_wp2_with fail
  refine (unhide (HC _ (((Below.refl _ _).alloc (Nat.le_refl _) _).alloc (by simp) _))).mono ?_
  rintro e w1 ⟨rfl, hb1⟩
  have hpk : w1.heap[w.heap.size]? = some (.cells (pkC ⟨tag, proto, true, sa, sp, da, dp, syn, fin, rst, err, qsa, qsp, qda, qdp⟩) 38 (0, 0)) := (hb1.block _ (by simp; omega)).trans (blkA (blkN _ _ _ rfl))
  have hrs : w1.heap[w.heap.size + 1]? = some (.cells (pkC pk0) 38 (0, 0)) := (hb1.block _ (by simp)).trans (blkN _ _ _ (by simp))
  obtain ⟨a0, a1', a2, a3, a4, a5, a6, a7, a8, a9, a10, a11, a12, a13, a14, az⟩ := pk_cells hpk
  obtain ⟨b0, b1, b2, b3, b4, b5, b6, b7, b8, b9, b10, b11, b12, b13, b14, bz⟩ := pk_cells hrs
  dsimp only [pk0] at *
  have hz : w.heap.size + 2 ≤ w1.heap.size := by have := hb1.size; simpa using this
  have HB : Hid (Below w.heap.size w w1) := Below.trans (((Below.refl _ _).alloc (Nat.le_refl _) _).alloc (by simp) _) (hb1.mono (by simp; omega))
  clear hpk hrs hb1 HC
  unfold ptrO
  go_wp2
  refine bodyPost_ret (v := .tuple #[.agg #[.int .i64 tag, .int .i64 proto, .bool true, .int .i64 sa, .int .i64 sp, .int .i64 da, .int .i64 dp, .bool syn, .bool fin, .bool rst, .bool err, .int .i64 qsa, .int .i64 qsp, .int .i64 qda, .int .i64 qdp], .int .i64 4]) (by simp [results, Try.results96, go_sem, b0, b1, b2, b3, b4, b5, b6, b7, b8, b9, b10, b11, b12, b13, b14]) rfl ⟨rfl, ?_⟩
  repeat (refine Below.setCell ?_ (by simp) _)
  exact unhide HB

set_option maxHeartbeats 2000000 in
set_option maxRecDepth 100000 in
theorem rerrO_filt (h : RefR w S r tv lv ts L) {t : Nat} (ht : t < ts.length) (tag proto sa sp da dp : Int) (syn fin rst err : Bool) (qsa qsp qda qdp : Int) {x : RCl} (hf : L.find? (atI t proto qda qdp) = some x) (hc : x.m.peers.contains qsa = false) :
    Calls Try.prog 96 #[.pointer (some ⟨r, 0, none⟩), .int .i64 t, .agg #[.int .i64 tag, .int .i64 proto, .bool true, .int .i64 sa, .int .i64 sp, .int .i64 da, .int .i64 dp, .bool syn, .bool fin, .bool rst, .bool err, .int .i64 qsa, .int .i64 qsp, .int .i64 qda, .int .i64 qdp]] w fun e w' => e = .returned (.tuple #[.agg #[.int .i64 tag, .int .i64 proto, .bool true, .int .i64 sa, .int .i64 sp, .int .i64 da, .int .i64 dp, .bool syn, .bool fin, .bool rst, .bool err, .int .i64 qsa, .int .i64 qsp, .int .i64 qda, .int .i64 qdp], .int .i64 5]) ∧ Below w.heap.size w w' := by
  obtain ⟨c0, -, -, hr⟩ := h.cells
  obtain ⟨b, cap, rfl, k1, k2, hb, -, a1, -, -⟩ := h.ten ht
  unfold maxLen at k2
  have hx := List.mem_of_find?_eq_some hf
  obtain ⟨⟨hblk, hps⟩, -, -⟩ := h.mem x hx
  obtain ⟨-, m1, m2, m3, m4, m5, -, -, -, -, -, mg⟩ := ref_cells hblk
  have HC := fun W (hW : Below w.heap.size w W) => hide (byInside_any (h.new hW) t proto qda qdp)
  rw [hf] at HC
  have HP := fun W (hW : Below w.heap.size w W) => hide (rpeer_any x.g x.sv x.m.peers qsa W ((hW.cell (p := ⟨x.g, 5, none⟩) mg).trans m5) (hps.keep hW.size (fun b' _ hl => hW.block b' hl)))
  rw [hc] at HP
  generalize ts[t].outer = oo at *
  generalize x.m.port = po at *
  clear h hf hc hblk hps
  go_enter Try.func96, Try.ntmps96
  go_wp2_with fail
  refine (unhide (HC _ (((Below.refl _ _).alloc (Nat.le_refl _) _).alloc (by simp) _))).mono ?_
  rintro e w1 ⟨rfl, hb1⟩
  have hpk : w1.heap[w.heap.size]? = some (.cells (pkC ⟨tag, proto, true, sa, sp, da, dp, syn, fin, rst, err, qsa, qsp, qda, qdp⟩) 38 (0, 0)) := (hb1.block _ (by simp; omega)).trans (blkA (blkN _ _ _ rfl))
  have hrs : w1.heap[w.heap.size + 1]? = some (.cells (pkC pk0) 38 (0, 0)) := (hb1.block _ (by simp)).trans (blkN _ _ _ (by simp))
  obtain ⟨a0, a1', a2, a3, a4, a5, a6, a7, a8, a9, a10, a11, a12, a13, a14, az⟩ := pk_cells hpk
  obtain ⟨b0, b1, b2, b3, b4, b5, b6, b7, b8, b9, b10, b11, b12, b13, b14, bz⟩ := pk_cells hrs
  dsimp only [pk0] at *
  have hz : w.heap.size + 2 ≤ w1.heap.size := by have := hb1.size; simpa using this
  have HB : Hid (Below w.heap.size w w1) := Below.trans (((Below.refl _ _).alloc (Nat.le_refl _) _).alloc (by simp) _) (hb1.mono (by simp; omega))
  clear hpk hrs hb1 HC
  have i4 := ((unhide HB).cell (p := ⟨x.g, 4, none⟩) mg).trans m4
  have mg1 : x.g < w1.heap.size := by omega
  unfold ptrO ptrV
  go_wp2_with fail
  refine (unhide (HP _ (unhide HB))).mono ?_
  rintro e w2 ⟨rfl, rfl⟩
  clear HP
  go_wp2
  refine bodyPost_ret (v := .tuple #[.agg #[.int .i64 tag, .int .i64 proto, .bool true, .int .i64 sa, .int .i64 sp, .int .i64 da, .int .i64 dp, .bool syn, .bool fin, .bool rst, .bool err, .int .i64 qsa, .int .i64 qsp, .int .i64 qda, .int .i64 qdp], .int .i64 5]) (by simp [results, Try.results96, go_sem, b0, b1, b2, b3, b4, b5, b6, b7, b8, b9, b10, b11, b12, b13, b14]) rfl ⟨rfl, ?_⟩
  repeat (refine Below.setCell ?_ (by simp) _)
  exact unhide HB

set_option maxHeartbeats 2000000 in
set_option maxRecDepth 100000 in
theorem rerrO_ok (h : RefR w S r tv lv ts L) {t : Nat} (ht : t < ts.length) (tag proto sa sp da dp : Int) (syn fin rst err : Bool) (qsa qsp qda qdp : Int) {x : RCl} (hf : L.find? (atI t proto qda qdp) = some x) (hc : x.m.peers.contains qsa = true) :
    Calls Try.prog 96 #[.pointer (some ⟨r, 0, none⟩), .int .i64 t, .agg #[.int .i64 tag, .int .i64 proto, .bool true, .int .i64 sa, .int .i64 sp, .int .i64 da, .int .i64 dp, .bool syn, .bool fin, .bool rst, .bool err, .int .i64 qsa, .int .i64 qsp, .int .i64 qda, .int .i64 qdp]] w fun e w' => e = .returned (.tuple #[.agg #[.int .i64 tag, .int .i64 proto, .bool true, .int .i64 ts[t].outer, .int .i64 sp, .int .i64 da, .int .i64 dp, .bool syn, .bool fin, .bool rst, .bool err, .int .i64 qsa, .int .i64 qsp, .int .i64 ts[t].outer, .int .i64 x.m.port], .int .i64 0]) ∧ Below w.heap.size w w' := by
  obtain ⟨c0, -, -, hr⟩ := h.cells
  obtain ⟨b, cap, rfl, k1, k2, hb, -, a1, -, -⟩ := h.ten ht
  unfold maxLen at k2
  have hx := List.mem_of_find?_eq_some hf
  obtain ⟨⟨hblk, hps⟩, -, -⟩ := h.mem x hx
  obtain ⟨-, m1, m2, m3, m4, m5, -, -, -, -, -, mg⟩ := ref_cells hblk
  have HC := fun W (hW : Below w.heap.size w W) => hide (byInside_any (h.new hW) t proto qda qdp)
  rw [hf] at HC
  have HP := fun W (hW : Below w.heap.size w W) => hide (rpeer_any x.g x.sv x.m.peers qsa W ((hW.cell (p := ⟨x.g, 5, none⟩) mg).trans m5) (hps.keep hW.size (fun b' _ hl => hW.block b' hl)))
  rw [hc] at HP
  generalize ts[t].outer = oo at *
  generalize x.m.port = po at *
  clear h hf hc hblk hps
  go_enter Try.func96, Try.ntmps96
  go_wp2_with fail
  refine (unhide (HC _ (((Below.refl _ _).alloc (Nat.le_refl _) _).alloc (by simp) _))).mono ?_
  rintro e w1 ⟨rfl, hb1⟩
  have hpk : w1.heap[w.heap.size]? = some (.cells (pkC ⟨tag, proto, true, sa, sp, da, dp, syn, fin, rst, err, qsa, qsp, qda, qdp⟩) 38 (0, 0)) := (hb1.block _ (by simp; omega)).trans (blkA (blkN _ _ _ rfl))
  have hrs : w1.heap[w.heap.size + 1]? = some (.cells (pkC pk0) 38 (0, 0)) := (hb1.block _ (by simp)).trans (blkN _ _ _ (by simp))
  obtain ⟨a0, a1', a2, a3, a4, a5, a6, a7, a8, a9, a10, a11, a12, a13, a14, az⟩ := pk_cells hpk
  obtain ⟨b0, b1, b2, b3, b4, b5, b6, b7, b8, b9, b10, b11, b12, b13, b14, bz⟩ := pk_cells hrs
  dsimp only [pk0] at *
  have hz : w.heap.size + 2 ≤ w1.heap.size := by have := hb1.size; simpa using this
  have HB : Hid (Below w.heap.size w w1) := Below.trans (((Below.refl _ _).alloc (Nat.le_refl _) _).alloc (by simp) _) (hb1.mono (by simp; omega))
  clear hpk hrs hb1 HC
  have i4 := ((unhide HB).cell (p := ⟨x.g, 4, none⟩) mg).trans m4
  have mg1 : x.g < w1.heap.size := by omega
  unfold ptrO ptrV
  go_wp2_with fail
  refine (unhide (HP _ (unhide HB))).mono ?_
  rintro e w2 ⟨rfl, rfl⟩
  clear HP
  go_wp2
  refine bodyPost_ret (v := .tuple #[.agg #[.int .i64 tag, .int .i64 proto, .bool true, .int .i64 oo, .int .i64 sp, .int .i64 da, .int .i64 dp, .bool syn, .bool fin, .bool rst, .bool err, .int .i64 qsa, .int .i64 qsp, .int .i64 oo, .int .i64 po], .int .i64 0]) (by simp [results, Try.results96, go_sem, b0, b1, b2, b3, b4, b5, b6, b7, b8, b9, b10, b11, b12, b13, b14]) rfl ⟨rfl, ?_⟩
  repeat (refine Below.setCell ?_ (by simp) _)
  exact unhide HB

set_option maxHeartbeats 2000000 in
set_option maxRecDepth 100000 in
theorem rerrI_none (h : RefR w S r tv lv ts L) {t : Nat} (ht : t < ts.length) (tag proto sa sp da dp : Int) (syn fin rst err : Bool) (qsa qsp qda qdp : Int) (hf : L.find? (atP t proto qsp) = none) :
    Calls Try.prog 96 #[.pointer (some ⟨r, 0, none⟩), .int .i64 t, .agg #[.int .i64 tag, .int .i64 proto, .bool false, .int .i64 sa, .int .i64 sp, .int .i64 da, .int .i64 dp, .bool syn, .bool fin, .bool rst, .bool err, .int .i64 qsa, .int .i64 qsp, .int .i64 qda, .int .i64 qdp]] w fun e w' => e = .returned (.tuple #[.agg #[.int .i64 tag, .int .i64 proto, .bool false, .int .i64 sa, .int .i64 sp, .int .i64 da, .int .i64 dp, .bool syn, .bool fin, .bool rst, .bool err, .int .i64 qsa, .int .i64 qsp, .int .i64 qda, .int .i64 qdp], .int .i64 4]) ∧ Below w.heap.size w w' := by
  obtain ⟨c0, -, -, hr⟩ := h.cells
  obtain ⟨b, cap, rfl, k1, k2, hb, -, a1, -, -⟩ := h.ten ht
  unfold maxLen at k2
  have HC := fun W (hW : Below w.heap.size w W) => hide (byPort_any (h.new hW) t proto qsp)
  rw [hf] at HC
  clear h hf
  go_enter Try.func96, Try.ntmps96
  go_wp2_with fail
  refine (unhide (HC _ (((Below.refl _ _).alloc (Nat.le_refl _) _).alloc (by simp) _))).mono ?_
  rintro e w1 ⟨rfl, rfl⟩
  clear HC
  unfold ptrO
  go_wp2
  refine bodyPost_ret (v := .tuple #[.agg #[.int .i64 tag, .int .i64 proto, .bool false, .int .i64 sa, .int .i64 sp, .int .i64 da, .int .i64 dp, .bool syn, .bool fin, .bool rst, .bool err, .int .i64 qsa, .int .i64 qsp, .int .i64 qda, .int .i64 qdp], .int .i64 4]) (by simp [results, Try.results96, go_sem]) rfl ⟨rfl, ?_⟩
  repeat (refine Below.setCell ?_ (by simp) _)
  exact (((Below.refl _ _).alloc (Nat.le_refl _) _).alloc (by simp) _)

set_option maxHeartbeats 2000000 in
set_option maxRecDepth 100000 in
theorem rerrI_far (h : RefR w S r tv lv ts L) {t : Nat} (ht : t < ts.length) (tag proto sa sp da dp : Int) (syn fin rst err : Bool) (qsa qsp qda qdp : Int) {x : RCl} (hf : L.find? (atP t proto qsp) = some x) (hd : ¬ da = ts[t].outer) :
    Calls Try.prog 96 #[.pointer (some ⟨r, 0, none⟩), .int .i64 t, .agg #[.int .i64 tag, .int .i64 proto, .bool false, .int .i64 sa, .int .i64 sp, .int .i64 da, .int .i64 dp, .bool syn, .bool fin, .bool rst, .bool err, .int .i64 qsa, .int .i64 qsp, .int .i64 qda, .int .i64 qdp]] w fun e w' => e = .returned (.tuple #[.agg #[.int .i64 tag, .int .i64 proto, .bool false, .int .i64 sa, .int .i64 sp, .int .i64 da, .int .i64 dp, .bool syn, .bool fin, .bool rst, .bool err, .int .i64 qsa, .int .i64 qsp, .int .i64 qda, .int .i64 qdp], .int .i64 4]) ∧ Below w.heap.size w w' := by
  obtain ⟨c0, -, -, hr⟩ := h.cells
  obtain ⟨b, cap, rfl, k1, k2, hb, -, a1, -, -⟩ := h.ten ht
  unfold maxLen at k2
  have HC := fun W (hW : Below w.heap.size w W) => hide (byPort_any (h.new hW) t proto qsp)
  rw [hf] at HC
  generalize ts[t].outer = oo at *
  have hd2 : (da == oo) = false := by simpa using hd
  have hd3 : (da != oo) = true := by simpa using hd
  clear h hf
  go_enter Try.func96, Try.ntmps96
  go_wp2_with fail
  refine (unhide (HC _ (((Below.refl _ _).alloc (Nat.le_refl _) _).alloc (by simp) _))).mono ?_
  rintro e w1 ⟨rfl, rfl⟩
  clear HC
  unfold ptrO ptrV
  go_wp2
  refine bodyPost_ret (v := .tuple #[.agg #[.int .i64 tag, .int .i64 proto, .bool false, .int .i64 sa, .int .i64 sp, .int .i64 da, .int .i64 dp, .bool syn, .bool fin, .bool rst, .bool err, .int .i64 qsa, .int .i64 qsp, .int .i64 qda, .int .i64 qdp], .int .i64 4]) (by simp [results, Try.results96, go_sem]) rfl ⟨rfl, ?_⟩
  repeat (refine Below.setCell ?_ (by simp) _)
  exact (((Below.refl _ _).alloc (Nat.le_refl _) _).alloc (by simp) _)

set_option maxHeartbeats 2000000 in
set_option maxRecDepth 100000 in
theorem rerrI_quote (h : RefR w S r tv lv ts L) {t : Nat} (ht : t < ts.length) (tag proto sa sp da dp : Int) (syn fin rst err : Bool) (qsa qsp qda qdp : Int) {x : RCl} (hf : L.find? (atP t proto qsp) = some x) (hd : da = ts[t].outer) (hq : ¬ qsa = ts[t].outer) :
    Calls Try.prog 96 #[.pointer (some ⟨r, 0, none⟩), .int .i64 t, .agg #[.int .i64 tag, .int .i64 proto, .bool false, .int .i64 sa, .int .i64 sp, .int .i64 da, .int .i64 dp, .bool syn, .bool fin, .bool rst, .bool err, .int .i64 qsa, .int .i64 qsp, .int .i64 qda, .int .i64 qdp]] w fun e w' => e = .returned (.tuple #[.agg #[.int .i64 tag, .int .i64 proto, .bool false, .int .i64 sa, .int .i64 sp, .int .i64 da, .int .i64 dp, .bool syn, .bool fin, .bool rst, .bool err, .int .i64 qsa, .int .i64 qsp, .int .i64 qda, .int .i64 qdp], .int .i64 4]) ∧ Below w.heap.size w w' := by
  obtain ⟨c0, -, -, hr⟩ := h.cells
  obtain ⟨b, cap, rfl, k1, k2, hb, -, a1, -, -⟩ := h.ten ht
  unfold maxLen at k2
  have HC := fun W (hW : Below w.heap.size w W) => hide (byPort_any (h.new hW) t proto qsp)
  rw [hf] at HC
  rw [← hd] at a1 hq
  have hd2 : (qsa == da) = false := by simpa using hq
  have hd3 : (qsa != da) = true := by simpa using hq
  clear h hf hd
  go_enter Try.func96, Try.ntmps96
  go_wp2_with fail
  refine (unhide (HC _ (((Below.refl _ _).alloc (Nat.le_refl _) _).alloc (by simp) _))).mono ?_
  rintro e w1 ⟨rfl, rfl⟩
  clear HC
  unfold ptrO ptrV
  go_wp2
  refine bodyPost_ret (v := .tuple #[.agg #[.int .i64 tag, .int .i64 proto, .bool false, .int .i64 sa, .int .i64 sp, .int .i64 da, .int .i64 dp, .bool syn, .bool fin, .bool rst, .bool err, .int .i64 qsa, .int .i64 qsp, .int .i64 qda, .int .i64 qdp], .int .i64 4]) (by simp [results, Try.results96, go_sem]) rfl ⟨rfl, ?_⟩
  repeat (refine Below.setCell ?_ (by simp) _)
  exact (((Below.refl _ _).alloc (Nat.le_refl _) _).alloc (by simp) _)

set_option maxHeartbeats 2000000 in
set_option maxRecDepth 100000 in
theorem rerrI_filt (h : RefR w S r tv lv ts L) {t : Nat} (ht : t < ts.length) (tag proto sa sp da dp : Int) (syn fin rst err : Bool) (qsa qsp qda qdp : Int) {x : RCl} (hf : L.find? (atP t proto qsp) = some x) (hd : da = ts[t].outer) (hq : qsa = ts[t].outer) (hc : x.m.peers.contains qda = false) :
    Calls Try.prog 96 #[.pointer (some ⟨r, 0, none⟩), .int .i64 t, .agg #[.int .i64 tag, .int .i64 proto, .bool false, .int .i64 sa, .int .i64 sp, .int .i64 da, .int .i64 dp, .bool syn, .bool fin, .bool rst, .bool err, .int .i64 qsa, .int .i64 qsp, .int .i64 qda, .int .i64 qdp]] w fun e w' => e = .returned (.tuple #[.agg #[.int .i64 tag, .int .i64 proto, .bool false, .int .i64 sa, .int .i64 sp, .int .i64 da, .int .i64 dp, .bool syn, .bool fin, .bool rst, .bool err, .int .i64 qsa, .int .i64 qsp, .int .i64 qda, .int .i64 qdp], .int .i64 5]) ∧ Below w.heap.size w w' := by
  obtain ⟨c0, -, -, hr⟩ := h.cells
  obtain ⟨b, cap, rfl, k1, k2, hb, -, a1, -, -⟩ := h.ten ht
  unfold maxLen at k2
  have hx := List.mem_of_find?_eq_some hf
  obtain ⟨⟨hblk, hps⟩, -, -⟩ := h.mem x hx
  obtain ⟨-, m1, m2, m3, m4, m5, -, -, -, -, -, mg⟩ := ref_cells hblk
  have HC := fun W (hW : Below w.heap.size w W) => hide (byPort_any (h.new hW) t proto qsp)
  rw [hf] at HC
  have HP := fun W (hW : Below w.heap.size w W) => hide (rpeer_any x.g x.sv x.m.peers qda W ((hW.cell (p := ⟨x.g, 5, none⟩) mg).trans m5) (hps.keep hW.size (fun b' _ hl => hW.block b' hl)))
  rw [hc] at HP
  rw [← hd] at a1 hq
  subst hq
  generalize x.m.ia = ia at *
  generalize x.m.ip = ip at *
  clear h hf hc hblk hps hd
  go_enter Try.func96, Try.ntmps96
  go_wp2_with fail
  refine (unhide (HC _ (((Below.refl _ _).alloc (Nat.le_refl _) _).alloc (by simp) _))).mono ?_
  rintro e w1 ⟨rfl, rfl⟩
  clear HC
  unfold ptrO ptrV
  go_wp2_with fail
  refine (unhide (HP _ (((Below.refl _ _).alloc (Nat.le_refl _) _).alloc (by simp) _))).mono ?_
  rintro e w2 ⟨rfl, rfl⟩
  clear HP
  go_wp2
  refine bodyPost_ret (v := .tuple #[.agg #[.int .i64 tag, .int .i64 proto, .bool false, .int .i64 sa, .int .i64 sp, .int .i64 qsa, .int .i64 dp, .bool syn, .bool fin, .bool rst, .bool err, .int .i64 qsa, .int .i64 qsp, .int .i64 qda, .int .i64 qdp], .int .i64 5]) (by simp [results, Try.results96, go_sem]) rfl ⟨rfl, ?_⟩
  repeat (refine Below.setCell ?_ (by simp) _)
  exact (((Below.refl _ _).alloc (Nat.le_refl _) _).alloc (by simp) _)

set_option maxHeartbeats 2000000 in
set_option maxRecDepth 100000 in
theorem rerrI_ok (h : RefR w S r tv lv ts L) {t : Nat} (ht : t < ts.length) (tag proto sa sp da dp : Int) (syn fin rst err : Bool) (qsa qsp qda qdp : Int) {x : RCl} (hf : L.find? (atP t proto qsp) = some x) (hd : da = ts[t].outer) (hq : qsa = ts[t].outer) (hc : x.m.peers.contains qda = true) :
    Calls Try.prog 96 #[.pointer (some ⟨r, 0, none⟩), .int .i64 t, .agg #[.int .i64 tag, .int .i64 proto, .bool false, .int .i64 sa, .int .i64 sp, .int .i64 da, .int .i64 dp, .bool syn, .bool fin, .bool rst, .bool err, .int .i64 qsa, .int .i64 qsp, .int .i64 qda, .int .i64 qdp]] w fun e w' => e = .returned (.tuple #[.agg #[.int .i64 tag, .int .i64 proto, .bool false, .int .i64 sa, .int .i64 sp, .int .i64 x.m.ia, .int .i64 dp, .bool syn, .bool fin, .bool rst, .bool err, .int .i64 x.m.ia, .int .i64 x.m.ip, .int .i64 qda, .int .i64 qdp], .int .i64 0]) ∧ Below w.heap.size w w' := by
  obtain ⟨c0, -, -, hr⟩ := h.cells
  obtain ⟨b, cap, rfl, k1, k2, hb, -, a1, -, -⟩ := h.ten ht
  unfold maxLen at k2
  have hx := List.mem_of_find?_eq_some hf
  obtain ⟨⟨hblk, hps⟩, -, -⟩ := h.mem x hx
  obtain ⟨-, m1, m2, m3, m4, m5, -, -, -, -, -, mg⟩ := ref_cells hblk
  have HC := fun W (hW : Below w.heap.size w W) => hide (byPort_any (h.new hW) t proto qsp)
  rw [hf] at HC
  have HP := fun W (hW : Below w.heap.size w W) => hide (rpeer_any x.g x.sv x.m.peers qda W ((hW.cell (p := ⟨x.g, 5, none⟩) mg).trans m5) (hps.keep hW.size (fun b' _ hl => hW.block b' hl)))
  rw [hc] at HP
  rw [← hd] at a1 hq
  subst hq
  generalize x.m.ia = ia at *
  generalize x.m.ip = ip at *
  clear h hf hc hblk hps hd
  go_enter Try.func96, Try.ntmps96
  go_wp2_with fail
  refine (unhide (HC _ (((Below.refl _ _).alloc (Nat.le_refl _) _).alloc (by simp) _))).mono ?_
  rintro e w1 ⟨rfl, rfl⟩
  clear HC
  unfold ptrO ptrV
  go_wp2_with fail
  refine (unhide (HP _ (((Below.refl _ _).alloc (Nat.le_refl _) _).alloc (by simp) _))).mono ?_
  rintro e w2 ⟨rfl, rfl⟩
  clear HP
  go_wp2
  refine bodyPost_ret (v := .tuple #[.agg #[.int .i64 tag, .int .i64 proto, .bool false, .int .i64 sa, .int .i64 sp, .int .i64 ia, .int .i64 dp, .bool syn, .bool fin, .bool rst, .bool err, .int .i64 ia, .int .i64 ip, .int .i64 qda, .int .i64 qdp], .int .i64 0]) (by simp [results, Try.results96, go_sem]) rfl ⟨rfl, ?_⟩
  repeat (refine Below.setCell ?_ (by simp) _)
  exact (((Below.refl _ _).alloc (Nat.le_refl _) _).alloc (by simp) _)

end

end Go.Proofs.Ytgpplekabohneaa
