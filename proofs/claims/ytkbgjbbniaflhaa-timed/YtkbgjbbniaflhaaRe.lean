/- 'New', walked: P2. -/
import Derived.Test.YtkbgjbbniaflhaaRd
namespace Go.Proofs.Ytkbgjbbniaflhaa
open Go.RowKit
open Go.ChangeMaps (setBlock)

attribute [local go_sem ↓] Go.wp_at_zero Go.wp_at_succ

theorem newAt_start (w1 : World) : NewAt ((w1.alloc (.map #[] 0)).alloc (.cells #[.map (some w1.heap.size)] 77)) w1.heap.size [] :=
  ⟨[], ⟨blkN _ _ _ (by simp), ⟨#[], 0, blkA (blkN _ _ _ rfl), rfl, by simp, by simp⟩, by simp, by simp⟩, rfl, by simp⟩

theorem newAt_box {w wr : World} {r : Nat} {ts : List Ten} (h : NewAt wr r ts) (hr : w.heap.size ≤ r) : BoxR wr (fun k => w.heap.size ≤ k ∧ k < wr.heap.size) (r + 1) (newB ts) := by
  obtain ⟨C, hC, hT, hS⟩ := h
  refine ⟨r, C, hC, hT, ?_, fun k hk => hk.2⟩
  have h1 := hC.cell.1
  rintro k (rfl | rfl | ⟨x, hx, hk⟩)
  · exact ⟨by omega, h1⟩
  · exact ⟨hr, by omega⟩
  · have := hS x hx k hk
    exact ⟨by omega, (hC.ten x hx).1.bound k hk⟩

set_option maxHeartbeats 1000000 in
theorem new_some (b off n cap : Nat) (ts : List Ten) (w : World) (hn : n = ts.length) (hc : n ≤ cap) (hm : cap ≤ maxLen) (hb : b < w.heap.size) (hT : TenAt w b off ts) :
    Calls Try.prog 23 #[.slice (some ⟨b, off, none⟩) n cap] w fun e w' => NewEnd w ts e w' := by
  have hmm := run_makeHint
  have hm0 := hm
  unfold maxLen at hm
  have HT : Hid (TenAt w b off ts) := hT
  have HN : Hid (n = ts.length) := hn
  clear hT
  have hck := check_some b off n cap ts w hn hc hm0 hb HT.out
  clear hn
  by_cases h0 : newErr ts = 0
  · have H0 : Hid (newErr ts = 0) := h0
    rw [h0] at hck
    have HCK := hide hck
    have hlen : Hid (errFrom [] ts = 0) := by
      have := H0.out
      unfold newErr at this
      split at this
      · cases this
      · exact this
    clear h0 hck
    go_enter Try.func23, Try.ntmps23
    go_wp2_with fail
    refine (unhide HCK).mono ?_
    rintro e w1 ⟨rfl, hb1⟩
    have hs1 := hb1.size
    have HB1 : Hid (Below w.heap.size w w1) := hb1
    clear hb1 HCK
    go_wp2
    go_loopg [20] n (fun k i wr => ∃ (j : Nat), j ≤ n ∧ k = n - j ∧ i = .int .i64 j ∧ errFrom (ts.take j) (ts.drop j) = 0 ∧ Below w.heap.size w wr ∧ NewAt wr w1.heap.size (ts.take j))
    case atStart => exact ⟨0, Nat.zero_le _, by omega, rfl, hlen.out, (HB1.out.alloc hs1 _).alloc (by simp; omega) _, newAt_start w1⟩
    case round =>
      obtain ⟨j, hj, hk, rfl, her, hbl, hNA⟩ := hrel
      have HK : Hid (gk = n - j) := hk
      have HE : Hid (errFrom (ts.take j) (ts.drop j) = 0) := her
      have HB : Hid (Below w.heap.size w wr) := hbl
      have HNA := hide hNA
      have hcl : w1.heap.size + 1 < wr.heap.size ∧ wr.cell? ⟨w1.heap.size + 1, 0, none⟩ = some (.map (some w1.heap.size)) := by
        obtain ⟨C, hC, _⟩ := hNA
        exact hC.cell
      clear hk her hlen hNA
      by_cases hlt : j < n
      · have hjt : j < ts.length := by have := HN.out; omega
        have hsz : w.heap.size ≤ wr.heap.size := hbl.size
        obtain ⟨g0, g1, g2, g3⟩ := (HT.out.below hbl hb) j hjt
        clear hbl
        obtain ⟨q1, q2, q3⟩ := errFrom_zero hjt HE.out
        have hsn := List.take_succ_eq_append_getElem hjt
        generalize hT0 : ts[j] = t at *
        obtain ⟨u0, u1, u2, u3⟩ := t
        simp only at g0 g1 g2 g3
        have HQ : Hid (okT ⟨u0, u1, u2, u3⟩ = true ∧ twiceIn (ts.take j) ⟨u0, u1, u2, u3⟩ = false ∧ errFrom (ts.take (j + 1)) (ts.drop (j + 1)) = 0 ∧ ts.take (j + 1) = ts.take j ++ [⟨u0, u1, u2, u3⟩]) := ⟨q1, q2, q3, hsn⟩
        clear q1 q2 q3 hsn hT0
        obtain ⟨hsz1, hp0⟩ := hcl
        go_wp2
        go_region_held3 (fun w' => w'.cell? ⟨w1.heap.size + 1, 0, none⟩ = some (.map (some w1.heap.size)) ∧ w'.cell? ⟨wr.heap.size, 0, none⟩ = some (.int .i64 u0) ∧ w'.cell? ⟨wr.heap.size, 1, none⟩ = some (.int .i64 u1) ∧ w'.cell? ⟨wr.heap.size, 2, none⟩ = some (.int .i64 u2) ∧ w'.cell? ⟨wr.heap.size, 3, none⟩ = some (.int .i64 u3)) (go_keep)
          ((go_at_call 36; refine (newTenant_any u0 u1 u2 u3 _).mono ?_; rintro e w2 ⟨rfl, hn2⟩;
            obtain ⟨es, clock, hM, hap, hst⟩ := new_step (unhide HNA) HQ.out.1 (tag_apart HQ.out.2.1) hn2.1 hn2.2.1 hn2.2.2.1 hn2.2.2.2.1 hn2.2.2.2.2;
            have k0 : w2.cell? ⟨w1.heap.size + 1, 0, none⟩ = some (.map (some w1.heap.size)) := (hn2.1.cell (p := ⟨w1.heap.size + 1, 0, none⟩) (by simp; omega)).trans (cellA hp0);
            have k1 : ∀ o, w2.cell? ⟨wr.heap.size, o, none⟩ = (wr.alloc (Obj.cells #[Value.int IntKind.i64 u0, Value.int IntKind.i64 u1, Value.int IntKind.i64 u2, Value.int IntKind.i64 u3] 68)).cell? ⟨wr.heap.size, o, none⟩ := (fun o => (hn2.1.cell (p := ⟨wr.heap.size, o, none⟩) (by simp)));
            have hup : ∀ v, (Instr.mapUpdate 75 (.map (some w1.heap.size)) (.int .i64 u0) v).run Try.prog w2 = .ok () (setBlock w2 w1.heap.size (.map (es.push { key := .int .i64 u0, val := v, born := clock }) (clock + 1))) := (fun v => run_update_new w2 w1.heap.size es clock u0 v ((hn2.1.block w1.heap.size (by simp; omega)).trans (blkA hM)) hap);
            have f1 := (fun o off => setBlock_cell w2 w1.heap.size o (w1.heap.size + 1) off (by omega));
            have f2 := (fun o off => setBlock_cell w2 w1.heap.size o wr.heap.size off (by omega));
            have HST := hide (And.intro hst hn2); clear hn2 hst hM hap))
        clear hup k0 k1 f1 f2
        go_wp2
        go_roundg (n - (j + 1))
        case measure => have := HK.out; omega
        case rel =>
          obtain ⟨hst, hn2⟩ := unhide HST
          obtain ⟨q1, q2, q3, q4⟩ := HQ.out
          rw [← q4] at hst
          refine ⟨j + 1, by omega, rfl, by go_num, q3, ?_, hst⟩
          refine (((HB.out.alloc HB.out.size _).drew).trans (hn2.1.mono (by simp; omega))).trans ⟨rfl, rfl, rfl, by simp [setBlock], fun k hk => setBlock_other' w2 _ _ k (by omega)⟩
      · have hjn : ts.take j = ts := List.take_of_length_le (by have := HN.out; omega)
        go_wp2
        go_ret2
        refine ⟨hbl, .inr ⟨H0.out, _, rfl, ?_⟩⟩
        have ho := unhide HNA
        rw [hjn] at ho
        exact newAt_box ho hs1
  · have H0 : Hid (newErr ts ≠ 0) := h0
    have hb0 : (newErr ts == 0) = false := by simpa using h0
    generalize hq : newErr ts = q at *
    have HCK := hide hck
    have HQ := hide hq
    clear hck h0 hq
    go_enter Try.func23, Try.ntmps23
    go_wp2_with fail
    refine (unhide HCK).mono ?_
    rintro e w1 ⟨rfl, hb1⟩
    have HB1 : Hid (Below w.heap.size w w1) := hb1
    clear hb1 HCK
    go_wp2
    go_ret2
    exact ⟨HB1.out, .inl ⟨by rw [unhide HQ]; exact H0.out, by rw [unhide HQ]; rfl⟩⟩

end Go.Proofs.Ytkbgjbbniaflhaa
