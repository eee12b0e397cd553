/- 'New': the program's box. -/
import Derived.Test.YtgiafiifoegokaaWd
namespace Go.Proofs.Ytgiafiifoegokaa
open Go.RowKit
open Go.ChangeMaps (setBlock)

attribute [local go_sem ↓] Go.wp_at_zero Go.wp_at_succ

theorem hide {p : Prop} (h : p) : Hid p := h
theorem unhide {p : Prop} (h : Hid p) : p := h

theorem errFrom_zero {ts : List Ten} {j : Nat} (h : j < ts.length) (h0 : errFrom (ts.take j) (ts.drop j) = 0) :
    okT ts[j] = true ∧ twiceIn (ts.take j) ts[j] = false ∧ errFrom (ts.take (j + 1)) (ts.drop (j + 1)) = 0 := by
  rw [errFrom_at ts j h] at h0
  split at h0
  · split at h0
    · cases h0
    · rename_i a1 a2
      exact ⟨a1, by simpa using a2, h0⟩
  · cases h0

theorem tag_apart {ts : List Ten} {t : Ten} (h : twiceIn ts t = false) : ∀ a ∈ ts, a.tag ≠ t.tag := by
  intro a ha e
  have : twiceIn ts t = true := by
    unfold twiceIn
    rw [List.any_eq_true]
    exact ⟨a, ha, by simp [e]⟩
  rw [this] at h
  cases h

/-- what New leaves: a refusal, or a box of the tenants in new blocks -/
def NewEnd (w : World) (ts : List Ten) (e : Ending) (w' : World) : Prop :=
  Below w.heap.size w w' ∧ ((newErr ts ≠ 0 ∧ e = .returned (.tuple #[.pointer none, .int .i64 (newErr ts)])) ∨
    (newErr ts = 0 ∧ ∃ p, e = .returned (.tuple #[.pointer (some ⟨p, 0, none⟩), .int .i64 0]) ∧ ProgBox w' (fun k => w.heap.size ≤ k) p ts))

theorem run_makeHint (n : Int) (w : World) : (Instr.makeMap 88 (some (.int .i64 n))).run Try.prog w = .ok (.map (some w.heap.size)) (w.alloc (.map #[] 0)) := by
  simp [Instr.makeMap, run_underlying Try.underlying88, Result.andThen, asInt, asIntOf]

theorem new_nil (w : World) : Calls Try.prog 15 #[.slice none 0 0] w fun e w' => NewEnd w [] e w' := by
  have hmm := run_makeHint
  go_enter Try.func15, Try.ntmps15
  go_wp2_with fail
  refine (check_nil _).mono ?_
  rintro e w1 ⟨rfl, hb1⟩
  have hs1 := hb1.size
  have HB1 : Hid (Below w.heap.size w w1) := hb1
  clear hb1
  go_wp2
  go_loopg [20] 1 (fun k i wr => i = .int .i64 0 ∧ wr = (w1.alloc (.map #[] 0)).alloc (.cells #[.map (some w1.heap.size)] 90))
  case atStart => exact ⟨rfl, rfl⟩
  case round =>
    obtain ⟨rfl, hwr⟩ := hrel
    have HW : Hid (wr = (w1.alloc (.map #[] 0)).alloc (.cells #[.map (some w1.heap.size)] 90)) := hwr
    clear hwr
    go_wp2
    go_ret2
    have hwr := HW.out
    refine ⟨?_, .inr ⟨rfl, _, rfl, ?_⟩⟩
    · rw [hwr]
      exact (HB1.out.alloc hs1 _).alloc (by simp; omega) _
    · refine ⟨?_, w1.heap.size, #[], 0, hs1, ?_, ?_, ?_⟩
      · show w.heap.size ≤ w1.heap.size + 1
        omega
      · rw [hwr]
        exact blkN _ _ _ (by simp)
      · rw [hwr]
        exact blkA (blkN _ _ _ rfl)
      · exact ⟨rfl, by simp⟩

theorem setBlock_cell (w : World) (r : Nat) (o : Obj) (b off : Nat) (h : b ≠ r) : (setBlock w r o).cell? ⟨b, off, none⟩ = w.cell? ⟨b, off, none⟩ := by
  apply World.cell?_of_block
  show (w.heap.setIfInBounds r o)[b]? = w.heap[b]?
  simp [Ne.symm h]

theorem setBlock_other (w : World) (r : Nat) (o : Obj) (b : Nat) (h : b ≠ r) : (setBlock w r o).heap[b]? = w.heap[b]? := by
  show (w.heap.setIfInBounds r o)[b]? = w.heap[b]?
  simp [Ne.symm h]

theorem setBlock_same {w : World} {r : Nat} {o o' : Obj} (h : w.heap[r]? = some o) : (setBlock w r o').heap[r]? = some o' := by
  have hlt : r < w.heap.size := (Array.getElem?_eq_some_iff.1 h).1
  show (w.heap.setIfInBounds r o')[r]? = some o'
  simp [hlt]

/-- 'newTenant', of whatever world: what lies there stays; the tenant's block, its empty map -/
theorem newTenant_new (a b c d : Int) (w : World) :
    Calls Try.prog 28 #[.agg #[.int .i64 a, .int .i64 b, .int .i64 c, .int .i64 d]] w fun e w' =>
      e = .returned (.pointer (some ⟨w.heap.size + 2, 0, none⟩)) ∧ (Below w.heap.size w w' ∧ w'.heap[w.heap.size + 2]? = some (.cells #[.int .i64 c, .int .i64 d, .map (some (w.heap.size + 1))] 106 (0, 0)) ∧ w'.heap[w.heap.size + 1]? = some (.map #[] 0)) := by
  refine (newTenant_any a b c d w).mono ?_
  rintro e w' ⟨he, rfl⟩
  exact ⟨he, (((Below.refl _ _).alloc (Nat.le_refl _) _).alloc (by simp) _).alloc (by simp; omega) _, blkN _ _ _ (by simp), blkA (blkN _ _ _ (by simp))⟩

theorem okT_spans {a b c d : Int} (h : okT ⟨a, b, c, d⟩ = true) : 0 ≤ c ∧ d ≤ 65535 := by
  unfold okT at h
  have := of_decide_eq_true h
  simp only at this
  omega

/-- a round of New, of the blocks alone -/
theorem new_step {w wr w2 : World} {X : Obj} {r j : Nat} {es : Array MapEntry} {clock : Nat} {ts : List Ten} {u0 u1 u2 u3 : Int} (hwr : w.heap.size ≤ r)
    (hB : Below w.heap.size w wr) (hM : wr.heap[r]? = some (.map es clock)) (hX : wr.heap[r + 1]? = some (.cells #[.map (some r)] 90 (0, 0))) (hO : EntOK wr (fun k => r + 1 < k) es (ts.take j)) (hok : okT ⟨u0, u1, u2, u3⟩ = true)
    (hb2 : Below (wr.alloc X).drew.heap.size (wr.alloc X).drew w2) (hg2 : w2.heap[(wr.alloc X).drew.heap.size + 2]? = some (.cells #[.int .i64 u2, .int .i64 u3, .map (some ((wr.alloc X).drew.heap.size + 1))] 106 (0, 0)))
    (hh2 : w2.heap[(wr.alloc X).drew.heap.size + 1]? = some (.map #[] 0)) (w3 : World)
    (h3 : w3 = setBlock w2 r (.map (es.push { key := .int .i64 u0, val := .pointer (some ⟨wr.heap.size + 1 + 2, 0, none⟩), born := clock }) (clock + 1))) :
    Below w.heap.size w w3 ∧ r + 1 < w3.heap.size ∧ w3.heap[r]? = some (.map (es.push { key := .int .i64 u0, val := .pointer (some ⟨wr.heap.size + 1 + 2, 0, none⟩), born := clock }) (clock + 1)) ∧
      w3.heap[r + 1]? = some (.cells #[.map (some r)] 90 (0, 0)) ∧ EntOK w3 (fun k => r + 1 < k) (es.push { key := .int .i64 u0, val := .pointer (some ⟨wr.heap.size + 1 + 2, 0, none⟩), born := clock }) (ts.take j ++ [⟨u0, u1, u2, u3⟩]) := by
  subst h3
  have esz : (wr.alloc X).drew.heap.size = wr.heap.size + 1 := by simp
  have l1 : r + 1 < wr.heap.size := (Array.getElem?_eq_some_iff.1 hX).1
  have hbw : ∀ k, k < wr.heap.size → w2.heap[k]? = wr.heap[k]? := fun k hk => (hb2.block k (by rw [esz]; omega)).trans (Below.heap_alloc wr X k hk)
  have hsz := hb2.size
  rw [esz] at hsz hg2 hh2
  have hr2 : w2.heap[r]? = some (.map es clock) := (hbw r (by omega)).trans hM
  have hkeep : ∀ (o : Obj) (k : Nat), r + 1 < k → k < wr.heap.size → (setBlock w2 r o).heap[k]? = wr.heap[k]? := fun o k h1 h2 => (setBlock_other w2 r o k (by omega)).trans (hbw k h2)
  refine ⟨?_, ?_, setBlock_same hr2, ?_, ?_⟩
  · refine (((hB.alloc hB.size X).drew).trans (hb2.mono (by rw [esz]; have := hB.size; omega))).trans ⟨rfl, rfl, rfl, by simp [setBlock], fun k hk => setBlock_other w2 r _ k (by omega)⟩
  · simp [setBlock]
    omega
  · exact (setBlock_other w2 r _ (r + 1) (by omega)).trans ((hbw (r + 1) l1).trans hX)
  · refine EntOK.snoc (hO.keep (fun _ h _ => h) (fun k h1 h2 => hkeep _ k h1 h2)) ⟨u0, u1, u2, u3⟩ (wr.heap.size + 1 + 2) clock ?_
    obtain ⟨q1, q2⟩ := okT_spans hok
    exact ⟨by show r + 1 < wr.heap.size + 1 + 2; omega, u2, u3, wr.heap.size + 1 + 1, 0, by show r + 1 < wr.heap.size + 1 + 1; omega, (setBlock_other w2 r _ _ (by omega)).trans hg2, (setBlock_other w2 r _ _ (by omega)).trans hh2, q1, q2⟩

set_option maxHeartbeats 400000 in
theorem new_some (b off n cap : Nat) (ts : List Ten) (w : World) (hn : n = ts.length) (hc : n ≤ cap) (hm : cap ≤ maxLen) (hb : b < w.heap.size) (hT : TenAt w b off ts) :
    Calls Try.prog 15 #[.slice (some ⟨b, off, none⟩) n cap] w fun e w' => NewEnd w ts e w' := by
  have hmm := run_makeHint
  have hm0 := hm
  unfold maxLen at hm
  have HT : Hid (TenAt w b off ts) := hT
  have HN : Hid (n = ts.length) := hn
  clear hT
  have hck := check_some b off n cap ts w hn hc hm0 hb HT.out
  clear hn
  by_cases h0 : newErr ts = 0
  · have H0 : Hid (newErr ts = 0) := h0
    rw [h0] at hck
    have HCK := hide hck
    have hlen : Hid (errFrom [] ts = 0) := by
      have := H0.out
      unfold newErr at this
      split at this
      · cases this
      · exact this
    clear h0 hck
    go_enter Try.func15, Try.ntmps15
    go_wp2_with fail
    refine (unhide HCK).mono ?_
    rintro e w1 ⟨rfl, hb1⟩
    have hs1 := hb1.size
    have HB1 : Hid (Below w.heap.size w w1) := hb1
    clear hb1 HCK
    go_wp2
    go_loopg [20] n (fun k i wr => ∃ (j : Nat) (es : Array MapEntry) (clock : Nat), j ≤ n ∧ k = n - j ∧ i = .int .i64 j ∧ errFrom (ts.take j) (ts.drop j) = 0 ∧ Below w.heap.size w wr ∧ w1.heap.size + 1 < wr.heap.size ∧
      wr.heap[w1.heap.size]? = some (.map es clock) ∧ wr.heap[w1.heap.size + 1]? = some (.cells #[.map (some w1.heap.size)] 90 (0, 0)) ∧ EntOK wr (fun k => w1.heap.size + 1 < k) es (ts.take j))
    case atStart => exact ⟨0, #[], 0, Nat.zero_le _, by omega, rfl, hlen.out, (HB1.out.alloc hs1 _).alloc (by simp; omega) _, by simp, blkA (blkN _ _ _ rfl), blkN _ _ _ (by simp), rfl, by simp⟩
    case round =>
      obtain ⟨j, es, clock, hj, hk, rfl, her, hbl, hsz, hmap, hbox, hent⟩ := hrel
      have HK : Hid (gk = n - j) := hk
      have HE : Hid (errFrom (ts.take j) (ts.drop j) = 0) := her
      have HB : Hid (Below w.heap.size w wr) := hbl
      have HM : Hid (wr.heap[w1.heap.size]? = some (.map es clock)) := hmap
      have HX : Hid (wr.heap[w1.heap.size + 1]? = some (.cells #[.map (some w1.heap.size)] 90 (0, 0))) := hbox
      have HO : Hid (EntOK wr (fun k => w1.heap.size + 1 < k) es (ts.take j)) := hent
      clear hk her hlen hmap hbox hent
      by_cases hlt : j < n
      · have hjt : j < ts.length := by have := HN.out; omega
        have hsz : w.heap.size ≤ wr.heap.size := hbl.size
        obtain ⟨g0, g1, g2, g3⟩ := (HT.out.below hbl hb) j hjt
        clear hbl
        obtain ⟨q1, q2, q3⟩ := errFrom_zero hjt HE.out
        have hsn := List.take_succ_eq_append_getElem hjt
        generalize hT0 : ts[j] = t at *
        obtain ⟨u0, u1, u2, u3⟩ := t
        simp only at g0 g1 g2 g3
        have HQ : Hid (okT ⟨u0, u1, u2, u3⟩ = true ∧ twiceIn (ts.take j) ⟨u0, u1, u2, u3⟩ = false ∧ errFrom (ts.take (j + 1)) (ts.drop (j + 1)) = 0 ∧ ts.take (j + 1) = ts.take j ++ [⟨u0, u1, u2, u3⟩]) := ⟨q1, q2, q3, hsn⟩
        clear q1 q2 q3 hsn hT0
        have hap : Hid (∀ e ∈ es.toList, ∃ b, e.key = .int .i64 b ∧ b ≠ u0) := by
          intro e he
          obtain ⟨t, ht, hk⟩ := HO.out.keys e he
          exact ⟨t.tag, hk, tag_apart HQ.out.2.1 t ht⟩
        have hp0 : wr.cell? ⟨w1.heap.size + 1, 0, none⟩ = some (.map (some w1.heap.size)) := by
          have := HX.out
          simp [World.cell?, this]
        go_wp2
        go_region_held3 (fun w' => w'.cell? ⟨w1.heap.size + 1, 0, none⟩ = some (.map (some w1.heap.size)) ∧ w'.cell? ⟨wr.heap.size, 0, none⟩ = some (.int .i64 u0) ∧ w'.cell? ⟨wr.heap.size, 1, none⟩ = some (.int .i64 u1) ∧ w'.cell? ⟨wr.heap.size, 2, none⟩ = some (.int .i64 u2) ∧ w'.cell? ⟨wr.heap.size, 3, none⟩ = some (.int .i64 u3)) (go_keep)
          ((go_at_call 28; refine (newTenant_new u0 u1 u2 u3 _).mono ?_; rintro e w2 ⟨rfl, hn2⟩;
            have k0 : w2.cell? ⟨w1.heap.size + 1, 0, none⟩ = some (.map (some w1.heap.size)) := (hn2.1.cell (p := ⟨w1.heap.size + 1, 0, none⟩) (by simp; omega)).trans (cellA hp0);
            have k1 : ∀ o, w2.cell? ⟨wr.heap.size, o, none⟩ = (wr.alloc (Obj.cells #[Value.int IntKind.i64 u0, Value.int IntKind.i64 u1, Value.int IntKind.i64 u2, Value.int IntKind.i64 u3] 37)).cell? ⟨wr.heap.size, o, none⟩ := (fun o => (hn2.1.cell (p := ⟨wr.heap.size, o, none⟩) (by simp)));
            have hup : ∀ v, (Instr.mapUpdate 88 (.map (some w1.heap.size)) (.int .i64 u0) v).run Try.prog w2 = .ok () (setBlock w2 w1.heap.size (.map (es.push { key := .int .i64 u0, val := v, born := clock }) (clock + 1))) := (fun v => run_update_new w2 w1.heap.size es clock u0 v ((hn2.1.block w1.heap.size (by simp; omega)).trans (blkA HM.out)) hap.out);
            have f1 := (fun o off => setBlock_cell w2 w1.heap.size o (w1.heap.size + 1) off (by omega));
            have f2 := (fun o off => setBlock_cell w2 w1.heap.size o wr.heap.size off (by omega));
            have HN2 := hide hn2; clear hn2))
        clear hup k0 k1 f1 f2
        go_wp2
        go_roundg (n - (j + 1))
        case measure => have := HK.out; omega
        case rel =>
          obtain ⟨hb2, hg2, hh2⟩ := unhide HN2
          obtain ⟨q1, q2, q3, q4⟩ := HQ.out
          obtain ⟨s1, s2, s3, s4, s5⟩ := new_step hs1 HB.out HM.out HX.out HO.out q1 hb2 hg2 hh2 _ rfl
          rw [← q4] at s5
          exact ⟨j + 1, _, _, by omega, rfl, by go_num, q3, s1, s2, s3, s4, s5⟩
      · have hjn : ts.take j = ts := List.take_of_length_le (by have := HN.out; omega)
        go_wp2
        go_ret2
        refine ⟨hbl, .inr ⟨H0.out, _, rfl, ?_⟩⟩
        have ho := HO.out
        rw [hjn] at ho
        exact ⟨by show w.heap.size ≤ w1.heap.size + 1; omega, w1.heap.size, es, clock, hs1, HX.out, HM.out, ho.keep (fun k hk _ => by show w.heap.size ≤ k; have hk' : w1.heap.size + 1 < k := hk; omega) (fun _ _ _ => rfl)⟩
  · have H0 : Hid (newErr ts ≠ 0) := h0
    have hb0 : (newErr ts == 0) = false := by simpa using h0
    generalize hq : newErr ts = q at *
    have HCK := hide hck
    have HQ := hide hq
    clear hck h0 hq
    go_enter Try.func15, Try.ntmps15
    go_wp2_with fail
    refine (unhide HCK).mono ?_
    rintro e w1 ⟨rfl, hb1⟩
    have HB1 : Hid (Below w.heap.size w w1) := hb1
    clear hb1 HCK
    go_wp2
    go_ret2
    exact ⟨HB1.out, .inl ⟨by rw [unhide HQ]; exact H0.out, by rw [unhide HQ]; rfl⟩⟩

end Go.Proofs.Ytgiafiifoegokaa
