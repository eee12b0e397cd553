/- 'Tick' and 'Table' of the document; the statement's world by colours. -/
import Derived.Test.YtgpplekabohneaaXf
import Derived.Test.YtgpplekabohneaaXb
namespace Go.Proofs.Ytgpplekabohneaa
open Go.RowKit

/-- a mapping, n ticks older -/
def tk (n : Int) (x : RCl) : RCl := ⟨x.g, x.sv, x.t, { x.m with idle := x.m.idle + n }⟩
def aliveC (x : RCl) : Bool := decide (x.m.idle < spanF x.m.proto x.m.st)
def tickL (n : Int) (L : List RCl) (j : Nat) : List RCl := (L.take j).map (tk n) ++ L.drop j
def keepL (n : Int) (L : List RCl) (j : Nat) : List RCl := ((L.take j).map (tk n)).filter aliveC

theorem tickL_zero (n : Int) (L : List RCl) : tickL n L 0 = L := by simp [tickL]

theorem tickL_len (n : Int) (L : List RCl) (j : Nat) : (tickL n L j).length = L.length := by
  unfold tickL
  rw [List.length_append, List.length_map, List.length_take, List.length_drop]
  omega

theorem tickL_g (n : Int) (L : List RCl) (j : Nat) : ((tickL n L j).map fun x => ptrV x.g) = L.map fun x => ptrV x.g := by
  unfold tickL
  rw [List.map_append, List.map_map]
  have : ((fun x : RCl => ptrV x.g) ∘ tk n) = fun x : RCl => ptrV x.g := rfl
  rw [this, ← List.map_append, List.take_append_drop]

theorem tickL_mem (n : Int) (L : List RCl) (j : Nat) (h : j < L.length) : L[j] ∈ tickL n L j := by
  unfold tickL
  refine List.mem_append.2 (.inr ?_)
  rw [List.drop_eq_getElem_cons h]
  exact List.mem_cons_self

theorem tickL_step (n : Int) (L : List RCl) (hap : L.Pairwise fun x y => x.g ≠ y.g) (j : Nat) (h : j < L.length) : updL (tickL n L j) L[j].g L[j].sv { L[j].m with idle := L[j].m.idle + n } = tickL n L (j + 1) := by
  unfold tickL updL
  rw [List.map_append, List.take_succ_eq_append_getElem h, List.map_append, List.append_assoc, List.drop_eq_getElem_cons h]
  congr 1
  · rw [List.map_map]
    refine List.map_congr_left (fun y hy => ?_)
    obtain ⟨i, hi, rfl⟩ := List.getElem_of_mem hy
    rw [List.length_take] at hi
    rw [List.getElem_take]
    have hne : L[i].g ≠ L[j].g := List.pairwise_iff_getElem.1 hap i j (by omega) h (by omega)
    show (if L[i].g = L[j].g then _ else tk n L[i]) = tk n L[i]
    rw [if_neg hne]
  · rw [List.map_cons, if_pos rfl]
    show _ = tk n L[j] :: L.drop (j + 1)
    congr 1
    conv => rhs; rw [← List.map_id (L.drop (j + 1))]
    refine List.map_congr_left (fun y hy => ?_)
    obtain ⟨i, hi, rfl⟩ := List.getElem_of_mem hy
    rw [List.length_drop] at hi
    rw [List.getElem_drop]
    have hne : L[j + 1 + i].g ≠ L[j].g := (List.pairwise_iff_getElem.1 hap j (j + 1 + i) h (by omega) (by omega)).symm
    rw [if_neg hne]
    rfl

theorem keepL_step (n : Int) (L : List RCl) (j : Nat) (h : j < L.length) : keepL n L (j + 1) = keepL n L j ++ (if aliveC (tk n L[j]) then [tk n L[j]] else []) := by
  unfold keepL
  rw [List.take_succ_eq_append_getElem h, List.map_append, List.filter_append]
  congr 1
  show [tk n L[j]].filter aliveC = _
  rw [List.filter_cons, List.filter_nil]

theorem keepL_le (n : Int) (L : List RCl) (j : Nat) : (keepL n L j).length ≤ L.length := by
  unfold keepL
  refine Nat.le_trans (List.length_filter_le _ _) ?_
  rw [List.length_map, List.length_take]
  omega

def tickR (n : Int) (L : List RCl) : List RCl := (L.map (tk n)).filter aliveC

theorem tickR_abs (n : Int) (L : List RCl) (i : Nat) : absM (tickR n L) i = (absM L i).filterMap (tickM n) := by
  unfold absM tickR
  induction L with
  | nil => rfl
  | cons x r ih =>
    rw [List.map_cons, List.filter_cons]
    have ht : (tk n x).t = x.t := rfl
    have hm : tickM n x.m = if aliveC (tk n x) then some (tk n x).m else none := by
      unfold tickM aliveC tk
      simp only [decide_eq_true_eq]
    by_cases h1 : x.t = i
    · have h2 : (x.t == i) = true := by simpa using h1
      rw [List.filter_cons_of_pos (by simpa using h1), List.map_cons, List.filterMap_cons, hm]
      cases ha : aliveC (tk n x)
      · simp only [Bool.false_eq_true, if_false]
        exact ih
      · simp only [if_true]
        rw [List.filter_cons_of_pos (by rw [ht]; exact h2), List.map_cons, ih]
    · have h2 : ¬ (x.t == i) = true := by simpa using h1
      rw [List.filter_cons_of_neg (p := fun x : RCl => x.t == i) h2]
      cases ha : aliveC (tk n x)
      · simp only [Bool.false_eq_true, if_false]
        exact ih
      · simp only [if_true]
        rw [List.filter_cons_of_neg (p := fun x : RCl => x.t == i) (by rw [ht]; exact h2)]
        exact ih

theorem tickR_absB (n : Int) (ts : List Ten) (L : List RCl) : absB ts (tickR n L) = tickB n (absB ts L) := by
  unfold absB tickB
  refine List.ext_getElem (by simp) (fun i h1 h2 => ?_)
  rw [List.getElem_map, List.getElem_mapIdx, List.getElem_mapIdx]
  unfold absT tickF
  rw [tickR_abs]

section
variable {w W : World} {S : Nat → Prop} {r : Nat} {tv lv : Value} {ts : List Ten} {L : List RCl}

/-- the box's list becomes another, of some of its mappings -/
theorem RefR.cut (h : RefR W S r tv lv ts L) {K : List RCl} (hK : K.Sublist L) {lw : Value} (hO : W.ownsRow 0 138 1 lw K.length (K.map fun x => ptrV x.g)) (hn : ∀ k, lw.ownBlock = some k → ¬ S k) : RefR (W.setCell ⟨r, 1, none⟩ lw) (fun k => S k ∨ lw.ownBlock = some k) r tv lw ts K := by
  have hF : Fr (fun k => k = r) W (W.setCell ⟨r, 1, none⟩ lw) := (Fr.refl _ _).setG
  have hrl : r < W.heap.size := (Array.getElem?_eq_some_iff.1 h.blk).1
  have hne : ∀ x ∈ L, x.g ≠ r := fun x hx e => by
    have h1 := (h.mem x hx).1.1
    rw [e, h.blk] at h1
    cases h1
  refine ⟨.inl h.sr, ?_, ?_, row_keepB h.tens (Nat.le_refl _) hF (fun k hk _ e => row_other h.tens h.blk (by decide) (by rw [hk, e])), row_keepB hO (Nat.le_refl _) hF (fun k hk _ e => hn k hk (e ▸ h.sr)), fun k hk => .inl (h.tS k hk), fun k hk => .inr hk, ?_, h.apart.sublist hK, ?_, Nat.le_trans hK.length_le h.few⟩
  · rintro k (hk | hk)
    · have := h.bound k hk
      simpa using this
    · have := (hO.lt k hk).2
      simpa using this
  · simp [World.setCell, Array.getElem?_modify, h.blk]
  · intro x hx
    have hx' := hK.subset hx
    refine ⟨⟨hF.some (h.mem x hx').1.1 (hne x hx'), (h.mem x hx').1.2.keep hF.size (fun b hb hl => hF.block b hl (h.nb x hx' b hb).1)⟩, .inl (h.mem x hx').2.1, fun b hb => .inl ((h.mem x hx').2.2 b hb)⟩
  · intro x hx b hb
    have hx' := hK.subset hx
    exact ⟨(h.nb x hx' b hb).1, fun e => hn b e ((h.mem x hx').2.2 b hb), fun y hy => (h.nb x hx' b hb).2.2 y (hK.subset hy)⟩

set_option maxHeartbeats 2000000 in
theorem rtick_bad (n : Int) (hn : n < 0 ∨ 100000 < n) :
    Calls Try.prog 36 #[.pointer (some ⟨r, 0, none⟩), .int .i64 n] w fun e w' => e = .returned (.int .i64 6) ∧ w' = w := by
  by_cases h0 : n < 0
  · go_enter Try.func36, Try.ntmps36
    go_wp2
    go_ret
    exact ⟨rfl, rfl⟩
  · have h1 : 100000 < n := by omega
    have e0 : decide (n < 0) = false := decide_eq_false h0
    have e1 : decide (100000 < n) = true := decide_eq_true h1
    go_enter Try.func36, Try.ntmps36
    go_wp2
    go_ret
    exact ⟨rfl, rfl⟩

set_option maxHeartbeats 4000000 in
set_option maxRecDepth 100000 in
theorem rtick_any (h : RefR w S r tv lv ts L) (n : Int) (hn0 : 0 ≤ n) (hn1 : n ≤ 100000) (hI : ∀ x ∈ L, 0 ≤ x.m.idle ∧ x.m.idle < 1000) :
    Calls Try.prog 36 #[.pointer (some ⟨r, 0, none⟩), .int .i64 n] w fun e w' => e = .returned (.int .i64 0) ∧ ∃ lv', RefR w' (grow S w w') r tv lv' ts (tickR n L) ∧ Fr S w w' := by
  obtain ⟨ao, cap, rfl, k1, k2, -⟩ := row1_cells h.rows
  obtain ⟨N, hN⟩ : ∃ N, L.length = N := ⟨_, rfl⟩
  rw [hN] at h k1
  have hSb := h.bound
  have hap := h.apart
  have hfew : N ≤ 2000 := by rw [← hN]; exact h.few
  have HH := hide h
  have HN := hide hN
  have HAP := hide hap
  have HII := hide hI
  have e0 : decide (n < 0) = false := decide_eq_false (by omega)
  have e1 : decide (100000 < n) = false := decide_eq_false (by omega)
  unfold maxLen at k2
  obtain ⟨i0, hi, hz0, hz1, hz2⟩ := info_parts info138
  have HI := hide (And.intro hi (And.intro hz0 (And.intro hz1 hz2)))
  clear h hN hap hI hi hz0 hz1 hz2
  go_enter Try.func36, Try.ntmps36
  go_wp2_with fail
  go_loopg [5, 6] N (fun k l i wr => ∃ j : Nat, j ≤ N ∧ k = N - j ∧ i = .int .i64 j ∧ RefR wr S r tv (.slice ao N cap) ts (tickL n L j) ∧ wr.ownsRow w.heap.size 138 1 l (keepL n L j).length ((keepL n L j).map fun x => ptrV x.g) ∧ Fr S w wr)
  case atStart => exact ⟨0, Nat.zero_le _, by omega, rfl, by rw [tickL_zero]; exact unhide HH, World.ownsRow_nil _ _ _ _, Fr.refl _ _⟩
  case round =>
    obtain ⟨j, hj, hk, rfl, hR, hO, hF⟩ := hrel
    have HK := hide hk
    have HR := hide hR
    have HO := hide hO
    have HF := hide hF
    have hsz := hF.size
    obtain ⟨-, c1, -, hr⟩ := hR.cells
    clear hk hO hF
    by_cases hlt : j < N
    · have hjL : j < L.length := by have := unhide HN; omega
      obtain ⟨ao', cap', hlv, -, -, k3⟩ := row1_cells hR.rows
      simp only [Value.slice.injEq] at hlv
      obtain ⟨rfl, -, rfl⟩ := hlv
      obtain ⟨b, rfl, hb, hc⟩ := k3 (by rw [tickL_len]; omega)
      have c0 := hc j (ptrV L[j].g) (by rw [tickL_g]; simp [hjL])
      have hmm := tickL_mem n L j hjL
      have hst := tickL_step n L (unhide HAP) j hjL
      have hks := keepL_step n L j hjL
      have hid := unhide HII _ (List.getElem_mem hjL)
      obtain ⟨x, hx⟩ : ∃ x, L[j] = x := ⟨_, rfl⟩
      rw [hx] at c0 hmm hst hks hid
      have hxm := (hR.mem x hmm)
      obtain ⟨m0, m1, m2, m3, m4, m5, m6, m7, m8, m9, mz, mg⟩ := ref_cells hxm.1.1
      have f7 := mz 7
      have hB2 : (wr.setCell ⟨x.g, 7, none⟩ (.int .i64 (x.m.idle + n))).heap[x.g]? = some (.cells (refC x.t { x.m with idle := x.m.idle + n } x.sv) 140 (0, 0)) := setB hxm.1.1 _ _
      have hR2 : RefR (wr.setCell ⟨x.g, 7, none⟩ (.int .i64 (x.m.idle + n))) S r tv (.slice (some ⟨b, 0, none⟩) N cap) ts (tickL n L (j + 1)) := by
        rw [← hst]
        refine (hR.updK hmm (m' := { x.m with idle := x.m.idle + n }) hB2 rfl ((Fr.refl _ _).setG)).mono ?_ ?_
        · rintro k (hk | hk)
          · exact hk
          · have h1 := hk.2
            simp at h1
            omega
        · intro k hk
          have := hR.bound k hk
          simpa using this
      have hF2 : Fr S w (wr.setCell ⟨x.g, 7, none⟩ (.int .i64 (x.m.idle + n))) := (unhide HF).setCell _ (fun _ => hxm.2.1)
      have hO2 : (wr.setCell ⟨x.g, 7, none⟩ (.int .i64 (x.m.idle + n))).ownsRow w.heap.size 138 1 u5 (keepL n L j).length ((keepL n L j).map fun x => ptrV x.g) := row_keepB (unhide HO) (Nat.le_refl _) (X := fun k => k = x.g) ((Fr.refl _ _).setG) (fun k hk hge e => by
        have := hSb _ hxm.2.1
        omega)
      obtain ⟨-, d1, -, -, -, -, d6, d7, -, -, -, dg⟩ := ref_cells hB2
      dsimp only at d1 d6 d7
      have HS := hide (rspan_any x.g x.m.proto x.m.st _ d1 d6)
      obtain ⟨sp, hsp⟩ : ∃ sp, spanF x.m.proto x.m.st = sp := ⟨_, rfl⟩
      rw [hsp] at HS
      have hal : aliveC (tk n x) = decide (x.m.idle + n < sp) := by
        unfold aliveC tk
        dsimp only
        rw [hsp]
      rw [hal] at hks
      have HKS := hide hks
      have H2 := hide (And.intro hR2 (And.intro hF2 (And.intro hO2 d7)))
      have hsp1 : 0 ≤ sp ∧ sp ≤ 1000 := by
        rw [← hsp]
        unfold spanF
        repeat' split
        all_goals omega
      obtain ⟨xi, hxi⟩ : ∃ xi, x.m.idle = xi := ⟨_, rfl⟩
      rw [hxi] at m7 HS H2 HKS hid
      obtain ⟨xg, hxg⟩ : ∃ xg, x.g = xg := ⟨_, rfl⟩
      rw [hxg] at c0 m7 f7 HS H2 mg
      have HXG := hide hxg
      unfold ptrV at c0
      clear hR hc hmm hst hks hx hxm m0 m1 m2 m3 m4 m5 m6 m8 m9 mz hB2 hR2 hF2 hO2 d1 d6 d7 dg hsp hal hxi hxg HO HF HR HII HAP
      go_wp2_with fail
      refine (unhide HS).mono ?_
      rintro e w2 ⟨rfl, hw⟩
      rw [← hw] at H2
      have hsz2 : wr.heap.size ≤ w2.heap.size := by rw [hw]; simp
      clear hw HS c0 c1 m7 f7
      obtain ⟨hR2, hF2, hO2, d7⟩ := unhide H2
      obtain ⟨-, c1, -, hr2⟩ := hR2.cells
      have hkl := keepL_le n L j
      rw [unhide HN] at hkl
      obtain ⟨q, hq⟩ : ∃ q, (keepL n L j).length = q := ⟨_, rfl⟩
      rw [hq] at hO2 hkl
      have HO := hide hO2
      have hxg2 : xg < w2.heap.size := by omega
      have HQ := hide hq
      clear hO2 hR2 hF2 hq
      by_cases hal : xi + n < sp
      · have hal2 : decide (xi + n < sp) = true := decide_eq_true hal
        have HKS2 : Hid (keepL n L (j + 1) = keepL n L j ++ [tk n x]) := (unhide HKS).trans (by rw [hal2]; rfl)
        clear HKS
        go_wp2_with (at_builtin; refine wpList_append_x _ rfl _ _ 135 rfl w.heap.size 138 i0 _ 1 8 Try.underlying135 (unhide HI).1 (unhide HI).2.1 (unhide HI).2.2.1 (unhide HI).2.2.2 rfl (by decide) _ q ((keepL n L j).map fun x => ptrV x.g) rfl ((unhide HO).alloc _) ⟨w2.heap.size, 0, none⟩ 1 1 [.pointer (some ⟨xg, 0, none⟩)] rfl rfl (World.news_of_block (by exact blkN w2 _ _ rfl)) (by simp [Value.oneCell']) (by omega) (by unfold maxLen; omega) (by omega) (by simp; omega) ?_; intro g2 cap2 w3 hO3 hG3; have HO3 := hide (And.intro hO3 hG3); clear hO3 hG3)
        go_roundg (N - (j + 1))
        case measure => have := unhide HK; omega
        case rel =>
          obtain ⟨hO3, hG3⟩ := unhide HO3
          obtain ⟨hR2, hF2, -, -⟩ := unhide H2
          have hF3 : Fr (fun k => w.heap.size ≤ k) w2 w3 := by
            have h0 : Fr (fun k => w.heap.size ≤ k) w2 (w2.alloc (.cells #[.pointer (some ⟨xg, 0, none⟩)] 138)) := (Fr.refl _ _).alloc _
            rcases hG3 with ⟨h5, h6⟩ | ⟨h5, h6⟩
            · exact h0.trans (Fr.of_grown h6 (fun k hk _ => by cases hk; exact ((unhide HO).lt _ h5).1))
            · exact h0.trans (Fr.of_grown h6 (fun k hk _ => by cases hk))
          refine ⟨j + 1, by omega, rfl, by go_num, hR2.keep hF3 (fun k hk hge => by have := hSb k hk; omega), ?_, hF2.trans' hF3 (fun k hk hl => by omega)⟩
          rw [unhide HKS2, List.length_append, unhide HQ, List.map_append]
          have e2 : ptrV (tk n x).g = .pointer (some ⟨xg, 0, none⟩) := by rw [← unhide HXG]; rfl
          show w3.ownsRow w.heap.size 138 1 _ (q + 1) (_ ++ [ptrV (tk n x).g])
          rw [e2]
          exact hO3
      · have hal2 : decide (xi + n < sp) = false := decide_eq_false hal
        have HKS2 : Hid (keepL n L (j + 1) = keepL n L j) := (unhide HKS).trans (by rw [hal2]; simp)
        clear HKS
        go_wp2_with fail
        go_roundg (N - (j + 1))
        case measure => have := unhide HK; omega
        case rel =>
          obtain ⟨hR2, hF2, hO2, -⟩ := unhide H2
          exact ⟨j + 1, by omega, rfl, by go_num, hR2, by rw [unhide HKS2]; exact hO2, hF2⟩
    · have hjn : j = N := by omega
      have ht1 : tickL n L j = L.map (tk n) := by
        unfold tickL
        rw [List.take_of_length_le (by have := unhide HN; omega), List.drop_of_length_le (by have := unhide HN; omega), List.append_nil]
      have ht2 : keepL n L j = tickR n L := by
        unfold keepL tickR
        rw [List.take_of_length_le (by have := unhide HN; omega)]
      have HT := hide (And.intro ht1 ht2)
      have f1 : wr.frozen? ⟨r, 1, none⟩ = false := (unhide HR).cells.2.2.1 1
      obtain ⟨la, lc, rfl, -, -, -⟩ := row1_cells (unhide HO)
      clear ht1 ht2 hR HII hjn
      go_wp2_with fail
      go_ret
      rw [show (keepL n L j).length = (tickR n L).length from by rw [(unhide HT).2]]
      have hO := unhide HO
      have hR := unhide HR
      rw [(unhide HT).1] at hR
      rw [(unhide HT).2] at hO
      have hO0 : wr.ownsRow 0 138 1 (.slice la (tickR n L).length lc) (tickR n L).length ((tickR n L).map fun x => ptrV x.g) := row_keepB hO (Nat.zero_le _) (X := fun _ => False) (Fr.refl _ _) (fun _ _ _ f => f)
      have hRc := hR.cut (K := tickR n L) List.filter_sublist hO0 (fun k hk hs => by have h1 := hSb k hs; have h2 := (hO.lt k hk).1; omega)
      refine ⟨rfl, _, hRc.mono ?_ ?_, (unhide HF).setCell _ (fun _ => (unhide HH).sr)⟩
      · rintro k (hk | hk)
        · exact .inl hk
        · exact .inr ⟨(hO.lt k hk).1, by have := (hO.lt k hk).2; simpa using this⟩
      · rintro k (hk | hk)
        · have := hSb k hk
          simp
          omega
        · exact hk.2

end

end Go.Proofs.Ytgpplekabohneaa

namespace Go.Proofs.Ytgpplekabohneaa
open Go.RowKit

/-- it has a peer -/
def okP (m : Mp) : Prop := m.peers ≠ []

theorem useM_okP (m : Mp) (p : Pk) : okP (useM m p) := by
  unfold okP
  rw [useM_peers]
  exact List.ne_nil_of_mem (useF_has _ _)

theorem inF_okP {T : Tn} (h : ∀ m ∈ T.maps, okP m) (p : Pk) : ∀ m ∈ (inF T p).1.maps, okP m := by
  unfold inF
  split
  · split
    · exact h
    · rename_i m hm
      split
      · intro y hy
        have hy' : y ∈ if p.proto = 2 then setM T.maps { marksF m p.out p.syn p.fin p.rst with idle := 0 } else T.maps := hy
        split at hy'
        · rcases setM_mem hy' with rfl | ⟨hy, _⟩
          · show (marksF m p.out p.syn p.fin p.rst).peers ≠ []
            rw [marksF_peers]
            exact h m (List.mem_of_find?_eq_some hm)
          · exact h y hy
        · exact h y hy'
      · exact h
  · exact h

theorem outW_okP {T : Tn} {m : Mp} (h : ∀ y ∈ T.maps, okP y ∨ isP m.proto m.port y = true) (p : Pk) : ∀ y ∈ (outW T m p).1.maps, okP y := by
  have key : ∀ y ∈ setM T.maps (useM m p), okP y := fun y hy => by
    rcases setM_mem hy with rfl | ⟨hy, hn⟩
    · exact useM_okP m p
    · rcases h y hy with h1 | h1
      · exact h1
      · have hs := useM_same m p
        rw [hs.1, hs.2.2.2] at hn
        rw [h1] at hn
        cases hn
  unfold outW
  split
  · exact inF_okP (T := { T with maps := setM T.maps (useM m p) }) key _
  · exact key

theorem outF_okP {T : Tn} (h : ∀ y ∈ T.maps, okP y) (p : Pk) : ∀ y ∈ (outF T p).1.maps, okP y := by
  unfold outF
  split
  · exact outW_okP (fun y hy => .inl (h y hy)) p
  · split
    · exact h
    · split
      · exact h
      · rename_i q hq
        refine outW_okP (T := { T with maps := T.maps ++ [newM p.proto p.sa p.sp q] }) (fun y hy => ?_) p
        rcases List.mem_append.1 hy with hy | hy
        · exact .inl (h y hy)
        · have : y = newM p.proto p.sa p.sp q := by simpa using hy
          rw [this]
          exact .inr (isP_iff.2 ⟨rfl, rfl⟩)

theorem passF_okP {T : Tn} (h : ∀ y ∈ T.maps, okP y) (p : Pk) : ∀ y ∈ (passF T p).1.maps, okP y := by
  unfold passF
  split
  · split <;> exact h
  · split
    · exact outF_okP h p
    · exact inF_okP h p

def okPB (B : List (Int × Tn)) : Prop := ∀ x ∈ B, ∀ m ∈ x.2.maps, okP m

theorem okPB.pass {B : List (Int × Tn)} (h : okPB B) (p : Pk) : okPB (passB B p).1 := by
  unfold passB
  split
  · split
    · exact h
    · rename_i x hx
      intro y hy
      obtain ⟨z, hz, rfl⟩ := List.mem_map.1 hy
      have hxm := List.mem_of_find?_eq_some hx
      by_cases e : isT p.tag z = true
      · rw [if_pos e]
        exact passF_okP (h x hxm) p
      · rw [if_neg e]
        exact h z hz
  · exact h

theorem okPB.tick {B : List (Int × Tn)} (h : okPB B) (n : Int) : okPB (tickB n B) := by
  intro y hy
  obtain ⟨z, hz, rfl⟩ := List.mem_map.1 hy
  intro m hm
  obtain ⟨m', hm', e⟩ := List.mem_filterMap.1 hm
  unfold tickM at e
  split at e
  · cases e
    exact h z hz m' hm'
  · cases e

theorem okPB.start (ts : List Ten) : okPB (newB ts) := by
  intro y hy
  obtain ⟨t, _, rfl⟩ := List.mem_map.1 hy
  intro m hm
  cases hm

/-- what lay there lies there, behind an append to nil -/
theorem kept_nil {W w5 : World} {g : Nat} (h : ((Value.slice none 0 0).ownBlock = some g ∧ W.grownBy w5 (some g)) ∨ (g = W.heap.size ∧ W.grownBy w5 none)) {k : Nat} (hk : k < W.heap.size) : w5.heap[k]? = W.heap[k]? := by
  rcases h with ⟨h, _⟩ | ⟨_, h⟩
  · cases h
  · exact h.block k hk (fun e => by cases e)

theorem below_nil {B : Nat} {W0 W w5 : World} {g : Nat} (hb : Below B W0 W) (hB : B ≤ W.heap.size) (h : ((Value.slice none 0 0).ownBlock = some g ∧ W.grownBy w5 (some g)) ∨ (g = W.heap.size ∧ W.grownBy w5 none)) : Below B W0 w5 := by
  rcases h with ⟨h, _⟩ | ⟨_, h⟩
  · cases h
  · exact hb.grown h hB (fun k hk => by cases hk)

section
variable {w : World} {S : Nat → Prop} {r : Nat} {tv lv : Value} {ts : List Ten} {L : List RCl}

set_option maxHeartbeats 2000000 in
theorem rtable_none (h : RefR w S r tv lv ts L) {tag : Int} (hpl : placeF ts tag = none) :
    Calls Try.prog 56 #[.pointer (some ⟨r, 0, none⟩), .int .i64 tag] w fun e w' => e = .returned (.tuple #[.slice none 0 0, .int .i64 5]) ∧ w' = w := by
  have HT := hide (tenant_any h tag)
  rw [hpl] at HT
  unfold placeV at HT
  clear h hpl
  go_enter Try.func56, Try.ntmps56
  go_wp2_with fail
  refine (unhide HT).mono ?_
  rintro e w' ⟨rfl, hw⟩
  symm at hw
  subst hw
  go_wp2
  go_ret2
  exact ⟨rfl, rfl⟩

set_option maxHeartbeats 4000000 in
set_option maxRecDepth 100000 in
theorem rtable_some (h : RefR w S r tv lv ts L) {tag : Int} {t : Nat} (ht : t < ts.length) (hpl : placeF ts tag = some t) (hA : GoodT (absT ts[t] t L)) (hP : ∀ x ∈ L, okP x.m) :
    Calls Try.prog 56 #[.pointer (some ⟨r, 0, none⟩), .int .i64 tag] w fun e w' => ∃ lv', e = .returned (.tuple #[lv', .int .i64 0]) ∧ TabR w' w.heap.size lv' (tableF (absT ts[t] t L)) ∧ Below w.heap.size w w' := by
  have HTE := hide (tenant_any h tag)
  rw [hpl] at HTE
  unfold placeV at HTE
  dsimp only at HTE
  have hneg : decide ((t : Int) < 0) = false := decide_eq_false (by omega)
  obtain ⟨c0, c1, cz, hr⟩ := h.cells
  obtain ⟨b, cap, htv, k1, k2, hb, a0, a1, a2, a3⟩ := h.ten ht
  obtain ⟨T, hT⟩ : ∃ T, absT ts[t] t L = T := ⟨_, rfl⟩
  have hTm : T.maps = absM L t := by rw [← hT]; rfl
  have hT2 : ts[t].low = T.low := by rw [← hT]; rfl
  have hT3 : ts[t].high = T.high := by rw [← hT]; rfl
  rw [hT] at hA
  rw [hT]
  rw [hT2] at a2
  rw [hT3] at a3
  rw [htv] at c0
  have hlo := hA.low
  have hhi := hA.high
  have hle := hA.le
  have hsp := hA.span
  have HC := fun W (hW : Below w.heap.size w W) proto z => hide (byPort_any (h.new hW) t proto z)
  have HFA : Hid (∀ proto z, T.maps.find? (isP proto z) = (L.find? (atP t proto z)).map (·.m)) := fun proto z => by
    rw [hTm, ← find_abs (isP proto z) t L]
    rfl
  have HH := hide h
  have HA := hide hA
  have HP := hide hP
  unfold maxLen at k2
  obtain ⟨i0, hi0, hz0, hz1, hz2⟩ := info_parts info52
  have HI := hide (And.intro hi0 (And.intro hz0 (And.intro hz1 hz2)))
  obtain ⟨i3, hi3, hy0, hy1, hy2⟩ := info_parts info3
  have HI3 := hide (And.intro hi3 (And.intro hy0 (And.intro hy1 hy2)))
  clear h hpl hA hP hT hTm hT2 hT3 htv hi0 hz0 hz1 hz2 hi3 hy0 hy1 hy2 a0 a1
  go_enter Try.func56, Try.ntmps56
  go_wp2_with fail
  refine (unhide HTE).mono ?_
  rintro e w' ⟨rfl, hw⟩
  symm at hw
  subst hw
  clear HTE
  go_wp2_with fail
  go_loopg [7, 8] 3 (fun k l p wr => ∃ j : Nat, j ≤ 3 ∧ k = 3 - j ∧ p = .int .i64 ((j : Int) + 1) ∧ TabR wr w.heap.size l (upTo T j) ∧ Below w.heap.size w wr)
  case atStart => exact ⟨0, by omega, by omega, rfl, ⟨[], rfl, World.ownsRow_nil _ _ _ _, by simp⟩, Below.refl _ _⟩
  case round =>
    obtain ⟨j, hj, hk, rfl, hTab, hbl⟩ := hrel
    have HK := hide hk
    have HTab := hide hTab
    have HBl := hide hbl
    have d0 := (hbl.cell (p := ⟨r, 0, none⟩) hr).trans c0
    have d2 := (hbl.cell (p := ⟨b, t * 4 + 2, none⟩) hb).trans a2
    clear hk hTab hbl
    by_cases hlt : j < 3
    · have hjl : (upTo T j).length ≤ j * 64 := upTo_len (unhide HA) j
      generalize wr = wo at *
      have hj3 : decide ((j : Int) + 1 ≤ 3) = true := by simp; omega
      go_wp2_with fail
      go_loopg [7, 9] (T.high + 1 - T.low).toNat (fun k l q wr => ∃ x : Int, T.low ≤ x ∧ x ≤ T.high + 1 ∧ k = (T.high + 1 - x).toNat ∧ q = .int .i64 x ∧ TabR wr w.heap.size l (upTo T j ++ rowF T.maps ((j : Int) + 1) (x - T.low).toNat T.low) ∧ Below w.heap.size w wr)
      case atStart => exact ⟨T.low, by omega, by omega, rfl, rfl, by simpa [rowF] using unhide HTab, unhide HBl⟩
      case round =>
        obtain ⟨x, hx1, hx2, hk2, rfl, hTab2, hbl2⟩ := hrel
        have g0 := (hbl2.cell (p := ⟨r, 0, none⟩) hr).trans c0
        have g3 := (hbl2.cell (p := ⟨b, t * 4 + 3, none⟩) hb).trans a3
        have hszr := hbl2.size
        have HTab2 := hide hTab2
        have HB2 := hide hbl2
        have HK2 := hide hk2
        clear hTab2 hbl2 hk2 d0 d2
        by_cases hxh : x ≤ T.high
        · have hxh2 : decide (x ≤ T.high) = true := decide_eq_true hxh
          have hsn := rowF_snoc T.maps ((j : Int) + 1) (x - T.low).toNat T.low
          have hsx : T.low + ((x - T.low).toNat : Int) = x := by omega
          have hsy : (x + 1 - T.low).toNat = (x - T.low).toNat + 1 := by omega
          rw [hsx, unhide HFA] at hsn
          have HCW := HC wr (unhide HB2) ((j : Int) + 1) x
          cases hf : L.find? (atP t ((j : Int) + 1) x) with
          | none =>
            rw [hf] at hsn HCW
            dsimp only [Option.map] at hsn
            rw [List.append_nil] at hsn
            have HSN := hide hsn
            have HSY := hide hsy
            unfold ptrO at HCW
            clear hsn hsx hsy hf HC
            go_wp2_with fail
            refine (unhide HCW).mono ?_
            rintro e w1 ⟨rfl, hw⟩
            symm at hw
            subst hw
            go_wp2_with fail
            go_roundg (T.high + 1 - (x + 1)).toNat
            case measure => have := unhide HK2; omega
            case rel => exact ⟨x + 1, by omega, by omega, rfl, rfl, by rw [unhide HSY, unhide HSN]; exact unhide HTab2, unhide HB2⟩
          | some y =>
            rw [hf] at hsn HCW
            dsimp only [Option.map] at hsn
            have hyL := List.mem_of_find?_eq_some hf
            have hym := (((unhide HH).new (unhide HB2)).mem y hyL).1
            have hyb : y.m.peers.length ≤ 4 := by
              have h1 : T.maps.find? (isP ((j : Int) + 1) x) = some y.m := by
                rw [unhide HFA, hf]
                rfl
              exact ((unhide HA).ok y.m (List.mem_of_find?_eq_some h1)).2.2.2.2.1
            have hyp : 0 < y.m.peers.length := List.length_pos_iff.2 (unhide HP y hyL)
            obtain ⟨m0, m1, m2, m3, m4, m5, m6, m7, m8, m9, mz, mg⟩ := ref_cells hym.1
            obtain ⟨ao, scap, hsv, hs1, hs2, hs3⟩ := hym.2
            obtain ⟨b2, off2, rfl, hb2, hcc⟩ := hs3 hyp
            rw [hsv] at m5
            obtain ⟨R, hR, hL, hPe⟩ := unhide HTab2
            have hrl := rowF_len T.maps ((j : Int) + 1) (x - T.low).toNat T.low
            have hnl : (upTo T j ++ rowF T.maps ((j : Int) + 1) (x - T.low).toNat T.low).length ≤ 192 := by
              rw [List.length_append]
              omega
            generalize hms : upTo T j ++ rowF T.maps ((j : Int) + 1) (x - T.low).toNat T.low = ms at *
            generalize hnn : ms.length = nn at *
            have HX := hide (And.intro hR (And.intro hL (And.intro hPe (And.intro hms hnn))))
            have HSN := hide hsn
            have HSY := hide hsy
            have HCC := hide hcc
            obtain ⟨pn, hpn⟩ : ∃ pn, y.m.peers.length = pn := ⟨_, rfl⟩
            rw [hpn] at m5 hyb hyp hs1
            have HPN := hide hpn
            unfold ptrO ptrV at HCW
            clear hsn hsx hsy hf hR hL hPe hrl hms hnn hcc HC hpn hs3 hym m0 m8 m9 mz hsv
            go_wp2_with fail
            refine (unhide HCW).mono ?_
            rintro e w1 ⟨rfl, hw⟩
            symm at hw
            subst hw
            go_wp2_with fail
            have HNEWS : ∀ X : Obj, Hid (∀ j u, (intsV y.m.peers)[j]? = some u → (wr.alloc X).cell? ((⟨b2, off2, none⟩ : Addr).add j) = some u) := fun X j u hu => by
              have hj : j < y.m.peers.length := by
                have := (List.getElem?_eq_some_iff.1 hu).1
                simpa [intsV] using this
              have hu2 : u = .int .i64 y.m.peers[j] := by
                have h1 : (intsV y.m.peers)[j]? = some (.int .i64 y.m.peers[j]) := by simp [intsV, hj]
                rw [h1] at hu
                exact (Option.some.inj hu).symm
              rw [hu2, Go.WideShapes.add_plain]
              exact cellA (unhide HCC j hj)
            have HLN : Hid ((intsV y.m.peers).length = pn * 1) := by
              show (intsV y.m.peers).length = pn * 1
              rw [← unhide HPN, Nat.mul_one]
              exact List.length_map ..
            have HONE : Hid (∀ u ∈ intsV y.m.peers, u.oneCell' = true) := fun u hu => by
              unfold intsV at hu
              obtain ⟨i, _, rfl⟩ := List.mem_map.1 hu
              rfl
            have hnew : (wr.alloc (.cells #[.int .i64 y.m.proto, .int .i64 y.m.ia, .int .i64 y.m.ip, .int .i64 y.m.port, .slice none 0 0, .int .i64 y.m.st, .int .i64 y.m.idle] 52)).heap[wr.heap.size]? = some (.cells #[.int .i64 y.m.proto, .int .i64 y.m.ia, .int .i64 y.m.ip, .int .i64 y.m.port, .slice none 0 0, .int .i64 y.m.st, .int .i64 y.m.idle] 52 (0, 0)) := blkN _ _ _ rfl
            have HNW := hide hnew
            have ca5 : ∀ X, (wr.alloc X).cell? ⟨y.g, 5, none⟩ = some (.slice (some ⟨b2, off2, none⟩) pn scap) := fun X => cellA m5
            clear hnew
            go_region_law
              ((refine step_append_x _ (by rfl) _ _ _ (by rfl) (wr.heap.size + 1) 3 i3 _ 1 8 Try.underlying50 (unhide HI3).1 (unhide HI3).2.1 (unhide HI3).2.2.1 (unhide HI3).2.2.2 rfl (by omega) (.slice none 0 0) 0 [] (by rfl) (World.ownsRow_nil _ _ _ _) ⟨b2, off2, none⟩ pn scap (intsV y.m.peers) (by rfl) (unhide HLN) (by exact unhide (HNEWS _)) (unhide HONE) (by omega) (by unfold maxLen; omega) (by omega) (by simp) ?_; intro g5 cap5 w5 hown5 hgr5;
                have q5 : w5.heap[wr.heap.size]? = some (.cells #[.int .i64 y.m.proto, .int .i64 y.m.ia, .int .i64 y.m.ip, .int .i64 y.m.port, .slice none 0 0, .int .i64 y.m.st, .int .i64 y.m.idle] 52 (0, 0)) := (kept_nil hgr5 (by simp)).trans (unhide HNW);
                have c45 : w5.cell? ⟨wr.heap.size, 4, none⟩ = some (.slice none 0 0) := (by simp [World.cell?, q5]);
                have f45 : w5.frozen? ⟨wr.heap.size, 4, none⟩ = false := (by simp [World.frozen?, q5]);
                have HO5 := hide hown5; have HG5 := hide hgr5; have HQ5 := hide q5; clear hown5 hgr5 q5))
            all_goals
              have hO5 := unhide HO5
              rw [Nat.zero_add, List.nil_append] at hO5
              have hsv : (w5.setCell ⟨wr.heap.size, 4, none⟩ (.slice (some ⟨g5, 0, none⟩) pn cap5)).ownsRow wr.heap.size 3 1 (.slice (some ⟨g5, 0, none⟩) pn cap5) y.m.peers.length (intsV y.m.peers) := by
                rw [unhide HPN]
                exact row_keepB hO5 (Nat.le_succ _) (X := fun k => k = wr.heap.size) ((Fr.refl _ _).setG) (fun k _ hk e => by omega)
              have hb6 : Below wr.heap.size wr (w5.setCell ⟨wr.heap.size, 4, none⟩ (.slice (some ⟨g5, 0, none⟩) pn cap5)) :=
                (below_nil (((Below.refl _ _).alloc (Nat.le_refl _) _).drew) (by simp) (unhide HG5)).setCell (Nat.le_refl _) _
              have q6 := setB (unhide HQ5) 4 (.slice (some ⟨g5, 0, none⟩) pn cap5)
              generalize w5.setCell ⟨wr.heap.size, 4, none⟩ (.slice (some ⟨g5, 0, none⟩) pn cap5) = w6 at *
              have n0 : w6.cell? ⟨wr.heap.size, 0, none⟩ = some (.int .i64 y.m.proto) := by simp [World.cell?, q6]
              have n1 : w6.cell? ⟨wr.heap.size, 1, none⟩ = some (.int .i64 y.m.ia) := by simp [World.cell?, q6]
              have n2 : w6.cell? ⟨wr.heap.size, 2, none⟩ = some (.int .i64 y.m.ip) := by simp [World.cell?, q6]
              have n3 : w6.cell? ⟨wr.heap.size, 3, none⟩ = some (.int .i64 y.m.port) := by simp [World.cell?, q6]
              have n4 : w6.cell? ⟨wr.heap.size, 4, none⟩ = some (.slice (some ⟨g5, 0, none⟩) pn cap5) := by simp [World.cell?, q6]
              have n5 : w6.cell? ⟨wr.heap.size, 5, none⟩ = some (.int .i64 y.m.st) := by simp [World.cell?, q6]
              have n6 : w6.cell? ⟨wr.heap.size, 6, none⟩ = some (.int .i64 y.m.idle) := by simp [World.cell?, q6]
              have hl6 : wr.heap.size < w6.heap.size := (Array.getElem?_eq_some_iff.1 q6).1
              have HX1 := hide (And.intro hsv hb6)
              clear hsv hb6 q6 hO5 HO5 HG5 HQ5 c45 f45 ca5 HNW HNEWS HLN HONE
              go_wp2_with (at_builtin; refine wpList_append_x _ rfl _ _ 43 rfl w.heap.size 52 i0 _ 7 72 Try.underlying43 (unhide HI).1 (unhide HI).2.1 (unhide HI).2.2.1 (unhide HI).2.2.2 rfl (by decide) _ nn (R.flatMap fun y => rowC y.1 y.2) rfl (row_keepB (unhide HX).2.1 (Nat.le_refl _) ((Fr.of_below (X := fun _ => False) (unhide HX1).2).alloc _) (fun _ _ _ f => f)) ⟨w6.heap.size, 0, none⟩ 1 1 (rowC y.m (.slice (some ⟨g5, 0, none⟩) pn cap5)) rfl rfl (World.news_of_block (by exact blkN w6 _ _ rfl)) (by simp [rowC, Value.oneCell']) (by omega) (by unfold maxLen; omega) (by omega) (by simp; omega) ?_; intro g2 cap2 w3 hO3 hG3; have HO3 := hide (And.intro hO3 hG3); clear hO3 hG3)
              go_roundg (T.high + 1 - (x + 1)).toNat
              case measure => have := unhide HK2; omega
              case rel =>
                obtain ⟨hR, hL, hPe, hms, hnn⟩ := unhide HX
                obtain ⟨hsv, hb1⟩ := unhide HX1
                obtain ⟨hO3, hG3⟩ := unhide HO3
                refine ⟨x + 1, by omega, by omega, rfl, rfl, ?_, ?_⟩
                · rw [unhide HSY, unhide HSN, ← List.append_assoc, hms]
                  subst hnn
                  exact TabR.snoc hR hL hPe hszr hb1 hsv hO3 hG3
                · have hb' : Below w.heap.size w (w6.alloc (.cells (rowC y.m (.slice (some ⟨g5, 0, none⟩) pn cap5)).toArray 52)) := ((unhide HB2).trans (hb1.mono hszr)).alloc (by omega) _
                  rcases hG3 with ⟨h5, h6⟩ | ⟨h5, h6⟩
                  · exact hb'.grown h6 (by simp; omega) (fun k hk => by cases hk; exact (hL.lt _ h5).1)
                  · exact hb'.grown h6 (by simp; omega) (fun k hk => by cases hk)
        · have hxe : x = T.high + 1 := by omega
          subst hxe
          have hxh2 : decide (T.high + 1 ≤ T.high) = false := decide_eq_false (by omega)
          go_wp2_with fail
          go_roundg (3 - (j + 1))
          case measure => have := unhide HK; omega
          case rel => exact ⟨j + 1, by omega, rfl, by go_num, by rw [upTo]; have := unhide HTab2; exact this, unhide HB2⟩
    · have hj3 : j = 3 := by omega
      subst hj3
      go_wp2_with fail
      go_ret2
      have hT := unhide HTab
      rw [upTo_three] at hT
      exact ⟨_, rfl, hT, unhide HBl⟩

end

end Go.Proofs.Ytgpplekabohneaa

namespace Go.Proofs.Ytgpplekabohneaa
open Go.RowKit

def nilV : Value := .slice none 0 0

def Row (w : World) (B : Nat) (col : Nat → Nat) (c : Nat) (e : TypeId) (sz : Nat) (v : Value) (n : Nat) (xs : List Value) : Prop :=
  w.ownsRow B e sz v n xs ∧ ∀ k, v.ownBlock = some k → col k = c

/-- from w to w' blocks of the colours C turn, and what gets a colour lies behind B -/
structure Turn (C : Nat → Prop) (B : Nat) (w w' : World) (col col' : Nat → Nat) : Prop where
  size : w.heap.size ≤ w'.heap.size
  block : ∀ k, k < w.heap.size → col k ≠ 0 → ¬ C (col k) → w'.heap[k]? = w.heap[k]?
  old : ∀ k, k < w.heap.size → col k ≠ 0 → col' k = col k
  new : ∀ k, col' k ≠ 0 → (k < w.heap.size ∧ col k ≠ 0) ∨ (B ≤ k ∧ k < w'.heap.size)

theorem Turn.mono {C D : Nat → Prop} {B : Nat} {w w' : World} {col col' : Nat → Nat} (h : Turn C B w w' col col') (hCD : ∀ x, C x → D x) : Turn D B w w' col col' :=
  ⟨h.size, fun k h1 h2 h3 => h.block k h1 h2 (fun hc => h3 (hCD _ hc)), h.old, h.new⟩

theorem Turn.trans {C : Nat → Prop} {B : Nat} {w w1 w2 : World} {col col1 col2 : Nat → Nat} (h : Turn C B w w1 col col1) (k : Turn C B w1 w2 col1 col2) : Turn C B w w2 col col2 where
  size := Nat.le_trans h.size k.size
  block := fun j h1 h2 h3 => (k.block j (Nat.lt_of_lt_of_le h1 h.size) (by rw [h.old j h1 h2]; exact h2) (by rw [h.old j h1 h2]; exact h3)).trans (h.block j h1 h2 h3)
  old := fun j h1 h2 => (k.old j (Nat.lt_of_lt_of_le h1 h.size) (by rw [h.old j h1 h2]; exact h2)).trans (h.old j h1 h2)
  new := fun j hj => by
    rcases k.new j hj with ⟨a, b⟩ | ⟨a, b⟩
    · rcases h.new j b with h1 | ⟨h1, h2⟩
      · exact .inl h1
      · exact .inr ⟨h1, Nat.lt_of_lt_of_le h2 k.size⟩
    · exact .inr ⟨a, b⟩

theorem Turn.refl (C : Nat → Prop) (B : Nat) (w : World) (col : Nat → Nat) (hcb : ∀ k, col k ≠ 0 → k < w.heap.size) : Turn C B w w col col :=
  ⟨Nat.le_refl _, fun _ _ _ _ => rfl, fun _ _ _ => rfl, fun k hk => .inl ⟨hcb k hk, hk⟩⟩

/-- blocks without a colour turn, new ones come: nothing that has a colour turns -/
theorem Turn.free {C : Nat → Prop} {B : Nat} {w w' : World} {col : Nat → Nat} (hcb : ∀ k, col k ≠ 0 → k < w.heap.size) (hF : Fr (fun k => col k = 0) w w') : Turn C B w w' col col :=
  ⟨hF.size, fun k h1 h2 _ => hF.block k h1 h2, fun _ _ _ => rfl, fun k hk => .inl ⟨hcb k hk, hk⟩⟩

/-- what has no colour gets one -/
theorem Turn.paint {C : Nat → Prop} {B : Nat} {w : World} {col col' : Nat → Nat} (hcb : ∀ k, col k ≠ 0 → k < w.heap.size) (h1 : ∀ k, col k ≠ 0 → col' k = col k) (h2 : ∀ k, col' k ≠ 0 → col k = 0 → B ≤ k ∧ k < w.heap.size) : Turn C B w w col col' :=
  ⟨Nat.le_refl _, fun _ _ _ _ => rfl, fun k _ hk => h1 k hk, fun k hk => by
    by_cases e : col k = 0
    · exact .inr (h2 k hk e)
    · exact .inl ⟨hcb k e, e⟩⟩

theorem rowOfBlock {w w' : World} {base e size n : Nat} {v : Value} {xs : List Value} (h : w.ownsRow base e size v n xs) (hk : ∀ k, v.ownBlock = some k → w'.heap[k]? = w.heap[k]?) : w'.ownsRow base e size v n xs := by
  refine ⟨h.1, ?_⟩
  rcases h.2 with hn | ⟨g, cap, cur, rfl, hb, hgg, rest⟩
  · exact .inl hn
  · exact .inr ⟨g, cap, cur, rfl, hb, (hk g rfl).trans hgg, rest⟩

theorem Row.turn {C : Nat → Prop} {w w' : World} {B : Nat} {col col' : Nat → Nat} {c : Nat} {e : TypeId} {sz : Nat} {v : Value} {n : Nat} {xs : List Value} (h : Row w B col c e sz v n xs) (hT : Turn C B w w' col col') (hc : c ≠ 0) (hC : ¬ C c) : Row w' B col' c e sz v n xs :=
  ⟨rowOfBlock h.1 (fun k hk => hT.block k (h.1.lt k hk).2 (by rw [h.2 k hk]; exact hc) (by rw [h.2 k hk]; exact hC)), fun k hk => (hT.old k (h.1.lt k hk).2 (by rw [h.2 k hk]; exact hc)).trans (h.2 k hk)⟩

/-- a list of numbers, each the mark -a -/
def MarkN (w : World) (T : Nat → Prop) (v : Value) (a : Nat) : Prop :=
  ∃ ao n cap, v = .slice ao n cap ∧ n ≤ cap ∧ cap ≤ maxLen ∧ (0 < n → ∃ g, ao = some ⟨g, 0, none⟩ ∧ g < w.heap.size ∧ T g ∧ ∀ i, i < n → w.cell? ⟨g, i, none⟩ = some (.int .i64 (-(a : Int))))

/-- the cells of a mapping that its owner wrote over with the mark c -/
def markC (c : Nat) : List Value := [.int .i64 (-(c : Int)), .int .i64 0, .int .i64 0, .int .i64 c, .slice none 0 0, .int .i64 0, .int .i64 0]

/-- a list of mappings, each with the mark c -/
def MarkM (w : World) (T : Nat → Prop) (v : Value) (c : Nat) : Prop :=
  ∃ ao n cap, v = .slice ao n cap ∧ n ≤ cap ∧ cap ≤ maxLen ∧ (0 < n → ∃ g, ao = some ⟨g, 0, none⟩ ∧ g < w.heap.size ∧ T g ∧ ∀ i o u, i < n → (markC c)[o]? = some u → w.cell? ⟨g, i * 7 + o, none⟩ = some u)

theorem MarkN.keep {w w' : World} {T T' : Nat → Prop} {v : Value} {a : Nat} (h : MarkN w T v a) (hsz : w.heap.size ≤ w'.heap.size) (hT : ∀ k, T k → k < w.heap.size → T' k ∧ w'.heap[k]? = w.heap[k]?) : MarkN w' T' v a := by
  obtain ⟨ao, n, cap, h1, h2, h3, h4⟩ := h
  refine ⟨ao, n, cap, h1, h2, h3, fun h0 => ?_⟩
  obtain ⟨g, e, hg, ht, hc⟩ := h4 h0
  exact ⟨g, e, by omega, (hT g ht hg).1, fun i hi => (World.cell?_of_block (a := ⟨g, i, none⟩) (hT g ht hg).2).trans (hc i hi)⟩

theorem MarkM.keep {w w' : World} {T T' : Nat → Prop} {v : Value} {a : Nat} (h : MarkM w T v a) (hsz : w.heap.size ≤ w'.heap.size) (hT : ∀ k, T k → k < w.heap.size → T' k ∧ w'.heap[k]? = w.heap[k]?) : MarkM w' T' v a := by
  obtain ⟨ao, n, cap, h1, h2, h3, h4⟩ := h
  refine ⟨ao, n, cap, h1, h2, h3, fun h0 => ?_⟩
  obtain ⟨g, e, hg, ht, hc⟩ := h4 h0
  exact ⟨g, e, by omega, (hT g ht hg).1, fun i o u hi hu => (World.cell?_of_block (a := ⟨g, i * 7 + o, none⟩) (hT g ht hg).2).trans (hc i o u hi hu)⟩

theorem Turn.at {C : Nat → Prop} {B : Nat} {w w' : World} {col col' : Nat → Nat} (hT : Turn C B w w' col col') {c : Nat} (hc : c ≠ 0) (hC : ¬ C c) : ∀ k, col k = c → k < w.heap.size → col' k = c ∧ w'.heap[k]? = w.heap[k]? := fun k hk hl =>
  ⟨(hT.old k hl (by rw [hk]; exact hc)).trans hk, hT.block k hl (by rw [hk]; exact hc) (by rw [hk]; exact hC)⟩

/-- a box of the statement's world: the program's, the document's -/
structure BX where
  b : Nat
  r : Nat
  tv : Value
  lv : Value
  ts : List Ten
  L : List RCl

structure BXok (w : World) (col : Nat → Nat) (i : Nat) (x : BX) : Prop where
  box : BoxR w (fun k => col k = 9 + 2 * i) x.b (absB x.ts x.L)
  ref : RefR w (fun k => col k = 10 + 2 * i) x.r x.tv x.lv x.ts x.L
  okx : okXB (absB x.ts x.L)
  okp : okPB (absB x.ts x.L)
  tens : ∀ t ∈ x.ts, okT t = true
  far : ∀ j, x.ts.length ≤ j → absM x.L j = []
  few : x.ts.length ≤ 8

theorem boxR_keep {w w' : World} {F F' : Nat → Prop} {b : Nat} {B : List (Int × Tn)} (h : BoxR w F b B) (hk : ∀ k, F k → F' k ∧ w'.heap[k]? = w.heap[k]?) (hF : ∀ k, F' k → k < w'.heap.size) (hos : w'.os = w.os ∧ w'.tape = w.tape ∧ w'.output = w.output) (hsz : w.heap.size ≤ w'.heap.size) : BoxR w' F' b B := by
  obtain ⟨r, C, h1, h2, h3, h4⟩ := h
  refine ⟨r, C, h1.keep (X := fun k => ¬ F k) ⟨hos.1, hos.2.1, hos.2.2, hsz, fun i _ hX => (hk i (Classical.byContradiction hX)).2⟩ (fun k hf hX => hX (h3 k hf)), h2, fun k hf => (hk k (h3 k hf)).1, hF⟩

theorem refR_keep {w w' : World} {F F' : Nat → Prop} {r : Nat} {tv lv : Value} {ts : List Ten} {L : List RCl} (h : RefR w F r tv lv ts L) (hk : ∀ k, F k → F' k ∧ w'.heap[k]? = w.heap[k]?) (hF : ∀ k, F' k → k < w'.heap.size) (hos : w'.os = w.os ∧ w'.tape = w.tape ∧ w'.output = w.output) (hsz : w.heap.size ≤ w'.heap.size) : RefR w' F' r tv lv ts L :=
  (h.keep (X := fun k => ¬ F k) ⟨hos.1, hos.2.1, hos.2.2, hsz, fun i _ hX => (hk i (Classical.byContradiction hX)).2⟩ (fun _ hf hX => hX hf)).mono (fun k hf => (hk k hf).1) hF

def Calm (w w' : World) : Prop := w'.os = w.os ∧ w'.tape = w.tape ∧ w'.output = w.output

theorem Calm.of {X : Nat → Prop} {w w' : World} (h : Fr X w w') : Calm w w' := by
  obtain ⟨a, b, c, _, _⟩ := h
  exact ⟨a, b, c⟩

theorem BXok.turn {C : Nat → Prop} {B : Nat} {w w' : World} {col col' : Nat → Nat} {i : Nat} {x : BX} (h : BXok w col i x) (hT : Turn C B w w' col col') (hos : Calm w w') (h1 : ¬ C (9 + 2 * i)) (h2 : ¬ C (10 + 2 * i)) (hcb' : ∀ k, col' k ≠ 0 → k < w'.heap.size) : BXok w' col' i x where
  box := boxR_keep h.box (fun k hk => hT.at (by omega) h1 k hk (by obtain ⟨_, _, _, _, _, h4⟩ := h.box; exact h4 k hk)) (fun k hk => hcb' k (by omega)) hos hT.size
  ref := refR_keep h.ref (fun k hk => hT.at (by omega) h2 k hk (h.ref.bound k hk)) (fun k hk => hcb' k (by omega)) hos hT.size
  okx := h.okx
  okp := h.okp
  tens := h.tens
  far := h.far
  few := h.few

def ety : Nat → Nat
  | 2 => 94
  | 3 => 38
  | 4 => 50
  | 5 => 3
  | 6 => 43
  | 7 => 3
  | _ => 0

def esz : Nat → Nat
  | 2 => 2
  | 3 => 15
  | _ => 1

def up {α : Type} (f : Nat → α) (i : Nat) (v : α) : Nat → α := fun j => if j = i then v else f j

theorem up_same {α : Type} (f : Nat → α) (i : Nat) (v : α) : up f i v i = v := by simp [up]
theorem up_ne {α : Type} (f : Nat → α) {i j : Nat} (v : α) (h : j ≠ i) : up f i v j = f j := by simp [up, h]

def wC (rv : Nat → Value) (c : Nat) : Array Value := #[rv 2, rv 3, rv 4, rv 5, rv 6, rv 7, .slice none 0 0, .slice none 0 0, .slice none 0 0, .slice none 0 0, .int .i64 c]

/-- the world's own block and its rows -/
structure WR (w : World) (B : Nat) (col : Nat → Nat) (wb : Nat) (rv : Nat → Value) (ln : Nat → Nat) (xs : Nat → List Value) (c : Nat) : Prop where
  blk : w.heap[wb]? = some (.cells (wC rv c) 70 (0, 0))
  cw : col wb = 1
  cb : ∀ k, col k ≠ 0 → B ≤ k ∧ k < w.heap.size
  rows : ∀ i, 2 ≤ i → i ≤ 7 → Row w B col i (ety i) (esz i) (rv i) (ln i) (xs i)

theorem WR.bound {w : World} {B : Nat} {col : Nat → Nat} {wb : Nat} {rv : Nat → Value} {ln : Nat → Nat} {xs : Nat → List Value} {c : Nat} (h : WR w B col wb rv ln xs c) : wb < w.heap.size ∧ B ≤ wb := ⟨(Array.getElem?_eq_some_iff.1 h.blk).1, (h.cb wb (by rw [h.cw]; decide)).1⟩

theorem WR.cells {w : World} {B : Nat} {col : Nat → Nat} {wb : Nat} {rv : Nat → Value} {ln : Nat → Nat} {xs : Nat → List Value} {c : Nat} (h : WR w B col wb rv ln xs c) :
    w.cell? ⟨wb, 0, none⟩ = some (rv 2) ∧ w.cell? ⟨wb, 1, none⟩ = some (rv 3) ∧ w.cell? ⟨wb, 2, none⟩ = some (rv 4) ∧ w.cell? ⟨wb, 3, none⟩ = some (rv 5) ∧ w.cell? ⟨wb, 4, none⟩ = some (rv 6) ∧ w.cell? ⟨wb, 5, none⟩ = some (rv 7) ∧ w.cell? ⟨wb, 6, none⟩ = some (.slice none 0 0) ∧ w.cell? ⟨wb, 8, none⟩ = some (.slice none 0 0) ∧ w.cell? ⟨wb, 10, none⟩ = some (.int .i64 c) ∧ ∀ o, w.frozen? ⟨wb, o, none⟩ = false := by
  refine ⟨?_, ?_, ?_, ?_, ?_, ?_, ?_, ?_, ?_, fun o => ?_⟩ <;> simp [World.cell?, World.frozen?, h.blk, wC]

theorem WR.turn {C : Nat → Prop} {w w' : World} {B : Nat} {col col' : Nat → Nat} {wb : Nat} {rv : Nat → Value} {ln : Nat → Nat} {xs : Nat → List Value} {c : Nat} (h : WR w B col wb rv ln xs c) (hT : Turn C B w w' col col') (hC : ∀ x, 1 ≤ x → x ≤ 7 → ¬ C x) : WR w' B col' wb rv ln xs c where
  blk := (hT.at (c := 1) (by decide) (hC 1 (by omega) (by omega)) wb h.cw h.bound.1).2.trans h.blk
  cw := (hT.at (c := 1) (by decide) (hC 1 (by omega) (by omega)) wb h.cw h.bound.1).1
  cb := fun k hk => by
    rcases hT.new k hk with ⟨a, b⟩ | ⟨a, b⟩
    · exact ⟨(h.cb k b).1, Nat.lt_of_lt_of_le a hT.size⟩
    · exact ⟨a, b⟩
  rows := fun i h1 h2 => (h.rows i h1 h2).turn hT (by omega) (hC i (by omega) h2)

/-- the count -/
theorem WR.count {w : World} {B : Nat} {col : Nat → Nat} {wb : Nat} {rv : Nat → Value} {ln : Nat → Nat} {xs : Nat → List Value} {c : Nat} (h : WR w B col wb rv ln xs c) (c' : Nat) :
    WR (w.setCell ⟨wb, 10, none⟩ (.int .i64 c')) B col wb rv ln xs c' ∧ Turn (fun x => x = 1) B w (w.setCell ⟨wb, 10, none⟩ (.int .i64 c')) col col := by
  have hT : Turn (fun x => x = 1) B w (w.setCell ⟨wb, 10, none⟩ (.int .i64 c')) col col := by
    refine ⟨by simp, fun k h1 h2 h3 => Below.heap_setCell _ _ _ _ (fun e => h3 (by rw [e]; exact h.cw)), fun _ _ _ => rfl, fun k hk => .inl ⟨(h.cb k hk).2, hk⟩⟩
  refine ⟨⟨?_, h.cw, fun k hk => by have := h.cb k hk; simpa using this, fun i h1 h2 => (h.rows i h1 h2).turn hT (by omega) (by omega)⟩, hT⟩
  have := setB h.blk 10 (.int .i64 c')
  simpa [wC] using this

def paint (col : Nat → Nat) (g c : Nat) : Nat → Nat := fun k => if k = g then c else col k

theorem size_g {W w5 : World} {v : Value} {g : Nat} (hgr : (v.ownBlock = some g ∧ W.grownBy w5 (some g)) ∨ (g = W.heap.size ∧ W.grownBy w5 none)) : W.heap.size ≤ w5.heap.size := by
  rcases hgr with ⟨_, h⟩ | ⟨_, h⟩ <;> exact h.size

theorem kept_g {W w5 : World} {v : Value} {g : Nat} (hgr : (v.ownBlock = some g ∧ W.grownBy w5 (some g)) ∨ (g = W.heap.size ∧ W.grownBy w5 none)) {k : Nat} (hk : k < W.heap.size) (hne : v.ownBlock ≠ some k) : w5.heap[k]? = W.heap[k]? := by
  rcases hgr with ⟨h1, h⟩ | ⟨_, h⟩
  · exact h.block k hk (fun e => hne (by rw [h1, e]))
  · exact h.block k hk (fun e => by cases e)

theorem fr_g {W w5 : World} {v : Value} {g : Nat} (hgr : (v.ownBlock = some g ∧ W.grownBy w5 (some g)) ∨ (g = W.heap.size ∧ W.grownBy w5 none)) : Fr (fun k => v.ownBlock = some k) W w5 := by
  rcases hgr with ⟨h1, h⟩ | ⟨_, h⟩
  · exact Fr.of_grown h (fun k hk _ => by cases hk; exact h1)
  · exact Fr.of_grown h (fun k hk _ => by cases hk)

/-- an element more in a row of the world -/
theorem WR.app {W w5 : World} {B : Nat} {col : Nat → Nat} {wb : Nat} {rv : Nat → Value} {ln : Nat → Nat} {xs : Nat → List Value} {c : Nat} (h : WR W B col wb rv ln xs c) {i : Nat} (hi1 : 2 ≤ i) (hi2 : i ≤ 7) {g n cap : Nat} {news : List Value}
    (hown : w5.ownsRow B (ety i) (esz i) (.slice (some ⟨g, 0, none⟩) n cap) n (xs i ++ news)) (hgr : ((rv i).ownBlock = some g ∧ W.grownBy w5 (some g)) ∨ (g = W.heap.size ∧ W.grownBy w5 none)) {o : Nat} (ho : o = i - 2) :
    WR (w5.setCell ⟨wb, o, none⟩ (.slice (some ⟨g, 0, none⟩) n cap)) B (paint col g i) wb (up rv i (.slice (some ⟨g, 0, none⟩) n cap)) (up ln i n) (up xs i (xs i ++ news)) c ∧
      Turn (fun x => x = 1 ∨ x = i) B W (w5.setCell ⟨wb, o, none⟩ (.slice (some ⟨g, 0, none⟩) n cap)) col (paint col g i) ∧
      Fr (fun k => col k ≠ 0) W (w5.setCell ⟨wb, o, none⟩ (.slice (some ⟨g, 0, none⟩) n cap)) := by
  have hgl : g < w5.heap.size := (hown.lt g rfl).2
  have hgB : B ≤ g := (hown.lt g rfl).1
  have hrow := h.rows i hi1 hi2
  have hwb := h.bound
  have hsz := size_g hgr
  have hcg : ∀ k, k < W.heap.size → k = g → col k = i := fun k hk e => by
    rcases hgr with ⟨h1, _⟩ | ⟨h1, _⟩
    · exact hrow.2 k (by rw [h1, e])
    · omega
  have hne : ∀ k, k < W.heap.size → col k ≠ i → (rv i).ownBlock ≠ some k := fun k _ hn e => hn (hrow.2 k e)
  have hwi : (rv i).ownBlock ≠ some wb := hne wb hwb.1 (by rw [h.cw]; omega)
  have hgw : wb ≠ g := fun e => by
    have := hcg wb hwb.1 e
    rw [h.cw] at this
    omega
  have hT : Turn (fun x => x = 1 ∨ x = i) B W (w5.setCell ⟨wb, o, none⟩ (.slice (some ⟨g, 0, none⟩) n cap)) col (paint col g i) := by
    refine ⟨by simpa using hsz, fun k h1 h2 h3 => ?_, fun k h1 h2 => ?_, fun k hk => ?_⟩
    · have hk1 : k ≠ wb := fun e => h3 (.inl (by rw [e]; exact h.cw))
      exact (Below.heap_setCell _ _ _ _ hk1).trans (kept_g hgr h1 (hne k h1 (fun e => h3 (.inr e))))
    · unfold paint
      split
      · rename_i e
        exact (hcg k h1 e).symm
      · rfl
    · by_cases e : k = g
      · exact .inr ⟨by rw [e]; exact hgB, by rw [e]; simpa using hgl⟩
      · unfold paint at hk
        rw [if_neg e] at hk
        exact .inl ⟨(h.cb k hk).2, hk⟩
  have hfr : Fr (fun k => col k ≠ 0) W (w5.setCell ⟨wb, o, none⟩ (.slice (some ⟨g, 0, none⟩) n cap)) := by
    refine Fr.setCell ((fr_g hgr).mono (fun k hk _ => by rw [hrow.2 k hk]; omega)) _ (fun _ => by show col wb ≠ 0; rw [h.cw]; decide)
  have hblk5 : w5.heap[wb]? = some (.cells (wC rv c) 70 (0, 0)) := (kept_g hgr hwb.1 hwi).trans h.blk
  refine ⟨⟨?_, ?_, fun k hk => ?_, fun j h1 h2 => ?_⟩, hT, hfr⟩
  · have hs := setB hblk5 o (.slice (some ⟨g, 0, none⟩) n cap)
    rw [hs]
    subst ho
    have : i = 2 ∨ i = 3 ∨ i = 4 ∨ i = 5 ∨ i = 6 ∨ i = 7 := by omega
    rcases this with rfl | rfl | rfl | rfl | rfl | rfl <;> simp [wC, up]
  · unfold paint
    rw [if_neg hgw, h.cw]
  · unfold paint at hk
    split at hk
    · rename_i e
      subst e
      exact ⟨hgB, by simpa using hgl⟩
    · have := h.cb k hk
      refine ⟨this.1, ?_⟩
      have h2 := this.2
      simp
      omega
  · by_cases e : j = i
    · subst e
      rw [up_same, up_same, up_same]
      refine ⟨rowOfBlock hown (fun k hk => ?_), fun k hk => ?_⟩
      · have hgk : g = k := by simpa [Value.ownBlock] using hk
        exact Below.heap_setCell _ _ _ _ (fun e => hgw (e.symm.trans hgk.symm))
      · have hgk : g = k := by simpa [Value.ownBlock] using hk
        unfold paint
        rw [if_pos hgk.symm]
    · rw [up_ne _ _ e, up_ne _ _ e, up_ne _ _ e]
      exact (h.rows j h1 h2).turn hT (by omega) (by omega)

/-- what came out, and the boxes -/
structure WO (w : World) (col : Nat → Nat) (bs : List BX) (ns : List Value) (az : List Nat) (ys : List Value) (cs : List Nat) : Prop where
  boxes : ∀ i (h : i < bs.length), BXok w col i bs[i]
  nums : ∀ i (h : i < ns.length) (h' : i < az.length), MarkN w (fun k => col k = 8) ns[i] az[i]
  marks : ∀ i (h : i < ys.length) (h' : i < cs.length), MarkM w (fun k => col k = 8) ys[i] cs[i]

theorem WO.turn {C : Nat → Prop} {B : Nat} {w w' : World} {col col' : Nat → Nat} {bs : List BX} {ns : List Value} {az : List Nat} {ys : List Value} {cs : List Nat} (h : WO w col bs ns az ys cs) (hT : Turn C B w w' col col') (hos : Calm w w') (hC : ∀ x, 8 ≤ x → ¬ C x) (hcb' : ∀ k, col' k ≠ 0 → k < w'.heap.size) : WO w' col' bs ns az ys cs where
  boxes := fun i hi => (h.boxes i hi).turn hT hos (hC _ (by omega)) (hC _ (by omega)) hcb'
  nums := fun i h1 h2 => (h.nums i h1 h2).keep hT.size (hT.at (by decide) (hC 8 (by omega)))
  marks := fun i h1 h2 => (h.marks i h1 h2).keep hT.size (hT.at (by decide) (hC 8 (by omega)))

end Go.Proofs.Ytgpplekabohneaa

namespace Go.Proofs.Ytgpplekabohneaa
open Go.RowKit

/-- a cell of a row turns -/
theorem rowSet {w : World} {B : Nat} {e : TypeId} {sz n cap : Nat} {g : Nat} {xs : List Value} (h : w.ownsRow B e sz (.slice (some ⟨g, 0, none⟩) n cap) n xs) (i : Nat) (u : Value) : (w.setCell ⟨g, i, none⟩ u).ownsRow B e sz (.slice (some ⟨g, 0, none⟩) n cap) n (xs.set i u) := by
  refine ⟨by rw [List.length_set]; exact h.1, ?_⟩
  rcases h.2 with ⟨h1, _⟩ | ⟨b, cap', cur, h1, hbg, hg, hnc, hcm, hcs, htake⟩
  · cases h1
  · simp only [Value.slice.injEq, Option.some.injEq, Addr.mk.injEq] at h1
    obtain ⟨⟨rfl, -, -⟩, -, rfl⟩ := h1
    refine .inr ⟨g, cap, cur.setIfInBounds i u, rfl, hbg, setB hg i u, hnc, hcm, by simpa using hcs, ?_⟩
    rw [Array.toList_setIfInBounds, List.take_set, htake]

theorem rep_set {α : Type} (m : α) (zs : List α) (j : Nat) (h : j < zs.length) : (List.replicate j m ++ zs.drop j).set j m = List.replicate (j + 1) m ++ zs.drop (j + 1) := by
  rw [List.drop_eq_getElem_cons h, List.set_append_right _ _ (by simp), List.length_replicate, Nat.sub_self, List.set_cons_zero, List.replicate_succ', List.append_assoc]
  rfl

def lenV : Value → Nat
  | .slice _ n _ => n
  | _ => 0

def mkV (a : Nat) : Value := .int .i64 (-(a : Int))

theorem markN_row {w : World} {B : Nat} {T : Nat → Prop} {l : Value} {n a : Nat} (h : w.ownsRow B 3 1 l n (List.replicate n (mkV a))) (hT : ∀ k, l.ownBlock = some k → T k) : MarkN w T l a ∧ lenV l = n := by
  obtain ⟨ao, cap, rfl, h1, h2, h3⟩ := row1_cells h
  refine ⟨⟨ao, n, cap, rfl, h1, h2, fun h0 => ?_⟩, rfl⟩
  obtain ⟨g, rfl, hg, hc⟩ := h3 h0
  refine ⟨g, rfl, hg, hT g rfl, fun i hi => hc i _ ?_⟩
  rw [List.getElem?_replicate, if_pos hi]
  rfl

/-- a list that shares its block with one that grows keeps its marks -/
theorem markN_app {W w9 : World} {B : Nat} {T : Nat → Prop} {l l' v : Value} {N a g cap : Nat} (hl : l' = .slice (some ⟨g, 0, none⟩) (N + 1) cap) (hnew : w9.ownsRow B 3 1 l' (N + 1) (List.replicate (N + 1) (mkV a)))
    (hgr : (l.ownBlock = some g ∧ W.grownBy w9 (some g)) ∨ (g = W.heap.size ∧ W.grownBy w9 none)) (h : MarkN W T v a) (hlen : lenV v ≤ N) : MarkN w9 T v a := by
  obtain ⟨ao, n, c, rfl, h1, h2, h3⟩ := h
  have hn : n ≤ N := hlen
  refine ⟨ao, n, c, rfl, h1, h2, fun h0 => ?_⟩
  obtain ⟨b, rfl, hb, ht, hc⟩ := h3 h0
  refine ⟨b, rfl, Nat.lt_of_lt_of_le hb (size_g hgr), ht, fun i hi => ?_⟩
  by_cases e : l.ownBlock = some b
  · rcases hgr with ⟨h5, _⟩ | ⟨_, h6⟩
    · have hgb : g = b := by rw [h5] at e; exact Option.some.inj e
      subst hgb
      obtain ⟨ao', cap', hl', _, _, k3⟩ := row1_cells hnew
      obtain ⟨g', e', _, k4⟩ := k3 (by omega)
      rw [hl] at hl'
      simp only [Value.slice.injEq] at hl'
      rw [e'] at hl'
      have : g = g' := by
        have := hl'.1
        simpa using this
      subst this
      refine k4 i _ ?_
      rw [List.getElem?_replicate, if_pos (by omega)]
      rfl
    · exact (World.cell?_of_block (a := ⟨b, i, none⟩) (h6.block b hb (fun e => by cases e))).trans (hc i hi)
  · exact (World.cell?_of_block (a := ⟨b, i, none⟩) (kept_g hgr hb e)).trans (hc i hi)

end Go.Proofs.Ytgpplekabohneaa

namespace Go.Proofs.Ytgpplekabohneaa
open Go.RowKit

theorem info50 : (Try.prog.info? 50).map (fun i => (i.zero, i.size, i.bytes)) = some (some (.slice none 0 0), 1, 24) := by kernel_rfl

section
variable {w W wr w5 w9 : World} {B : Nat} {col col1 : Nat → Nat} {wb : Nat} {rv rv1 : Nat → Value} {ln : Nat → Nat} {xs : Nat → List Value} {c : Nat} {lv l : Value} {k4 k5 N : Nat} {ws : List Value}

/-- inside 'ints': k4 lists, k5 marks more than at its start; the list l, of N marks -/
structure IS (w : World) (B : Nat) (col : Nat → Nat) (wb : Nat) (ln : Nat → Nat) (xs : Nat → List Value) (c : Nat) (lv : Value) (col1 : Nat → Nat) (rv1 : Nat → Value) (k4 k5 : Nat) (ws : List Value) (l : Value) (N : Nat) (wr : World) : Prop where
  wl : WR wr B col1 wb rv1 (up (up ln 4 (ln 4 + k4)) 5 (ln 5 + k5)) (up (up xs 4 (xs 4 ++ ws)) 5 (xs 5 ++ List.replicate k5 (mkV c))) c
  marks : ∀ v ∈ ws, MarkN wr (fun q => col1 q = 0 ∧ B ≤ q ∧ (w.heap.size ≤ q ∨ lv.ownBlock = some q)) v c ∧ lenV v ≤ N
  own : wr.ownsRow B 3 1 l N (List.replicate N (mkV c))
  free : ∀ q, l.ownBlock = some q → col1 q = 0 ∧ (w.heap.size ≤ q ∨ lv.ownBlock = some q)
  turn : Turn (fun x => x = 1 ∨ x = 4 ∨ x = 5) B w wr col col1
  fr : Fr (fun k => col k ≠ 0 ∨ lv.ownBlock = some k) w wr
  zero : ∀ q, q < w.heap.size → col q = 0 → col1 q = 0

theorem IS.cb (h : IS w B col wb ln xs c lv col1 rv1 k4 k5 ws l N wr) : ∀ k, col1 k ≠ 0 → k < wr.heap.size := fun k hk => (h.wl.cb k hk).2

/-- new blocks alone -/
theorem IS.below (h : IS w B col wb ln xs c lv col1 rv1 k4 k5 ws l N wr) (hb : Below wr.heap.size wr W) : IS w B col wb ln xs c lv col1 rv1 k4 k5 ws l N W where
  wl := h.wl.turn (C := fun _ => False) (Turn.free h.cb (Fr.of_below hb)) (fun _ _ _ f => f)
  marks := fun v hv => ⟨(h.marks v hv).1.keep hb.size (fun k hk hl => ⟨hk, hb.block k hl⟩), (h.marks v hv).2⟩
  own := rowOfBlock h.own (fun k hk => hb.block k (h.own.lt k hk).2)
  free := h.free
  turn := h.turn.trans (Turn.free h.cb (Fr.of_below hb))
  fr := h.fr.trans' (Fr.of_below (X := fun _ => False) hb) (fun _ f _ => f.elim)
  zero := h.zero

theorem ups4 {α : Type} (f : Nat → α) (a b a' : α) : up (up (up f 4 a) 5 b) 4 a' = up (up f 4 a') 5 b := by
  funext j
  unfold up
  by_cases e4 : j = 4
  · subst e4
    simp
  · simp [e4]

theorem ups5 {α : Type} (f : Nat → α) (a b b' : α) : up (up (up f 4 a) 5 b) 5 b' = up (up f 4 a) 5 b' := by
  funext j
  unfold up
  by_cases e5 : j = 5
  · subst e5
    simp
  · simp [e5]

theorem IS.painted (h : IS w B col wb ln xs c lv col1 rv1 k4 k5 ws l N W) {i g : Nat} (hi : 2 ≤ i) (hi2 : i ≤ 7) (hgr : ((rv1 i).ownBlock = some g ∧ W.grownBy w5 (some g)) ∨ (g = W.heap.size ∧ W.grownBy w5 none)) : ∀ q, q < W.heap.size → col1 q = 0 → paint col1 g i q = 0 := fun q hq h0 => by
  have hrow := h.wl.rows i hi hi2
  unfold paint
  rw [if_neg, h0]
  intro e
  rcases hgr with ⟨h1, _⟩ | ⟨h1, _⟩
  · have := hrow.2 g h1
    rw [← e, h0] at this
    omega
  · omega

/-- what all appends to a row of the world share -/
theorem IS.stay (h : IS w B col wb ln xs c lv col1 rv1 k4 k5 ws l N W) {i g n cap o : Nat} (hi : 2 ≤ i) (hi2 : i ≤ 7) (hgr : ((rv1 i).ownBlock = some g ∧ W.grownBy w5 (some g)) ∨ (g = W.heap.size ∧ W.grownBy w5 none))
    (hF : Fr (fun k => col1 k ≠ 0) W (w5.setCell ⟨wb, o, none⟩ (.slice (some ⟨g, 0, none⟩) n cap))) :
    (∀ v, MarkN W (fun q => col1 q = 0 ∧ B ≤ q ∧ (w.heap.size ≤ q ∨ lv.ownBlock = some q)) v c → MarkN (w5.setCell ⟨wb, o, none⟩ (.slice (some ⟨g, 0, none⟩) n cap)) (fun q => paint col1 g i q = 0 ∧ B ≤ q ∧ (w.heap.size ≤ q ∨ lv.ownBlock = some q)) v c) ∧
    (w5.setCell ⟨wb, o, none⟩ (.slice (some ⟨g, 0, none⟩) n cap)).ownsRow B 3 1 l N (List.replicate N (mkV c)) ∧
    (∀ q, l.ownBlock = some q → paint col1 g i q = 0 ∧ (w.heap.size ≤ q ∨ lv.ownBlock = some q)) ∧
    Fr (fun k => col k ≠ 0 ∨ lv.ownBlock = some k) w (w5.setCell ⟨wb, o, none⟩ (.slice (some ⟨g, 0, none⟩) n cap)) ∧
    (∀ q, q < w.heap.size → col q = 0 → paint col1 g i q = 0) := by
  have hp := h.painted (w5 := w5) hi hi2 hgr
  refine ⟨fun v hv => hv.keep hF.size (fun k hk hl => ⟨⟨hp k hl hk.1, hk.2⟩, hF.block k hl (fun hn => hn hk.1)⟩), rowOfBlock h.own (fun k hk => hF.block k (h.own.lt k hk).2 (fun hn => hn (h.free k hk).1)), fun q hq => ⟨hp q (h.own.lt q hq).2 (h.free q hq).1, (h.free q hq).2⟩, h.fr.trans' hF (fun k hk hl => ?_), fun q hq h0 => hp q (Nat.lt_of_lt_of_le hq h.turn.size) (h.zero q hq h0)⟩
  refine .inl (fun h0 => hk (h.zero k hl h0))

theorem IS.app4 (h : IS w B col wb ln xs c lv col1 rv1 k4 k5 ws l N W) {g cap : Nat} (hown : w5.ownsRow B 50 1 (.slice (some ⟨g, 0, none⟩) (ln 4 + k4 + 1) cap) (ln 4 + k4 + 1) (xs 4 ++ ws ++ [l])) (hgr : ((rv1 4).ownBlock = some g ∧ W.grownBy w5 (some g)) ∨ (g = W.heap.size ∧ W.grownBy w5 none)) :
    IS w B col wb ln xs c lv (paint col1 g 4) (up rv1 4 (.slice (some ⟨g, 0, none⟩) (ln 4 + k4 + 1) cap)) (k4 + 1) k5 (ws ++ [l]) l N (w5.setCell ⟨wb, 2, none⟩ (.slice (some ⟨g, 0, none⟩) (ln 4 + k4 + 1) cap)) := by
  have hx : (up (up xs 4 (xs 4 ++ ws)) 5 (xs 5 ++ List.replicate k5 (mkV c))) 4 = xs 4 ++ ws := by simp [up]
  obtain ⟨hW, hT, hF⟩ := h.wl.app (i := 4) (by omega) (by omega) (g := g) (n := ln 4 + k4 + 1) (cap := cap) (news := [l]) (by rw [hx]; exact hown) hgr (o := 2) rfl
  rw [hx, ups4, ups4, List.append_assoc] at hW
  obtain ⟨s1, s2, s3, s4, s5⟩ := h.stay (i := 4) (by omega) (by omega) hgr hF
  refine ⟨hW, fun v hv => ?_, s2, s3, h.turn.trans (hT.mono (fun x hx => hx.elim (fun e => .inl e) (fun e => .inr (.inl e)))), s4, s5⟩
  rcases List.mem_append.1 hv with hv | hv
  · exact ⟨s1 v (h.marks v hv).1, (h.marks v hv).2⟩
  · have e : v = l := by simpa using hv
    subst e
    have hm := markN_row h.own (T := fun q => col1 q = 0 ∧ B ≤ q ∧ (w.heap.size ≤ q ∨ lv.ownBlock = some q)) (fun k hk => ⟨(h.free k hk).1, (h.own.lt k hk).1, (h.free k hk).2⟩)
    exact ⟨s1 _ hm.1, Nat.le_of_eq hm.2⟩

theorem IS.app5 (h : IS w B col wb ln xs c lv col1 rv1 k4 k5 ws l N W) {g cap : Nat} (hown : w5.ownsRow B 3 1 (.slice (some ⟨g, 0, none⟩) (ln 5 + k5 + 1) cap) (ln 5 + k5 + 1) (xs 5 ++ List.replicate k5 (mkV c) ++ [mkV c])) (hgr : ((rv1 5).ownBlock = some g ∧ W.grownBy w5 (some g)) ∨ (g = W.heap.size ∧ W.grownBy w5 none)) :
    IS w B col wb ln xs c lv (paint col1 g 5) (up rv1 5 (.slice (some ⟨g, 0, none⟩) (ln 5 + k5 + 1) cap)) k4 (k5 + 1) ws l N (w5.setCell ⟨wb, 3, none⟩ (.slice (some ⟨g, 0, none⟩) (ln 5 + k5 + 1) cap)) := by
  have hx : (up (up xs 4 (xs 4 ++ ws)) 5 (xs 5 ++ List.replicate k5 (mkV c))) 5 = xs 5 ++ List.replicate k5 (mkV c) := by simp [up]
  obtain ⟨hW, hT, hF⟩ := h.wl.app (i := 5) (by omega) (by omega) (g := g) (n := ln 5 + k5 + 1) (cap := cap) (news := [mkV c]) (by rw [hx]; exact hown) hgr (o := 3) rfl
  rw [hx, ups5, ups5, List.append_assoc, ← List.replicate_succ'] at hW
  obtain ⟨s1, s2, s3, s4, s5⟩ := h.stay (i := 5) (by omega) (by omega) hgr hF
  exact ⟨hW, fun v hv => ⟨s1 v (h.marks v hv).1, (h.marks v hv).2⟩, s2, s3, h.turn.trans (hT.mono (fun x hx => hx.elim (fun e => .inl e) (fun e => .inr (.inr e)))), s4, s5⟩

/-- the list itself grows -/
theorem IS.grow (h : IS w B col wb ln xs c lv col1 rv1 k4 k5 ws l N W) {g cap : Nat} (hown : w9.ownsRow B 3 1 (.slice (some ⟨g, 0, none⟩) (N + 1) cap) (N + 1) (List.replicate N (mkV c) ++ [mkV c])) (hgr : (l.ownBlock = some g ∧ W.grownBy w9 (some g)) ∨ (g = W.heap.size ∧ W.grownBy w9 none)) (hsz : w.heap.size ≤ W.heap.size) :
    IS w B col wb ln xs c lv col1 rv1 k4 k5 ws (.slice (some ⟨g, 0, none⟩) (N + 1) cap) (N + 1) w9 := by
  rw [← List.replicate_succ'] at hown
  have hF0 := fr_g hgr
  have hF : Fr (fun k => col1 k = 0) W w9 := hF0.mono (fun k hk _ => (h.free k hk).1)
  refine ⟨h.wl.turn (C := fun _ => False) (Turn.free h.cb hF) (fun _ _ _ f => f), fun v hv => ⟨?_, Nat.le_succ_of_le (h.marks v hv).2⟩, hown, fun q hq => ?_, h.turn.trans (Turn.free h.cb hF), h.fr.trans' hF0 (fun k hk hl => ?_), h.zero⟩
  · exact markN_app rfl hown hgr (h.marks v hv).1 (h.marks v hv).2
  · have e : g = q := by simpa [Value.ownBlock] using hq
    subst e
    rcases hgr with ⟨h1, _⟩ | ⟨h1, _⟩
    · exact h.free g h1
    · refine ⟨?_, .inl (by omega)⟩
      by_cases e0 : col1 g = 0
      · exact e0
      · have := h.cb g e0
        omega
  · rcases (h.free k hk).2 with h1 | h1
    · omega
    · exact .inr h1

theorem IS.row4 (h : IS w B col wb ln xs c lv col1 rv1 k4 k5 ws l N W) : W.ownsRow B 50 1 (rv1 4) (ln 4 + k4) (xs 4 ++ ws) ∧ (rv1 4).ownBlock ≠ some wb := by
  have h1 := h.wl.rows 4 (by omega) (by omega)
  refine ⟨by have := h1.1; simpa [ety, esz, up] using this, fun e => ?_⟩
  have h2 := h1.2 wb e
  rw [h.wl.cw] at h2
  omega

theorem IS.row5 (h : IS w B col wb ln xs c lv col1 rv1 k4 k5 ws l N W) : W.ownsRow B 3 1 (rv1 5) (ln 5 + k5) (xs 5 ++ List.replicate k5 (mkV c)) ∧ (rv1 5).ownBlock ≠ some wb := by
  have h1 := h.wl.rows 5 (by omega) (by omega)
  refine ⟨by have := h1.1; simpa [ety, esz, up] using this, fun e => ?_⟩
  have h2 := h1.2 wb e
  rw [h.wl.cw] at h2
  omega

/-- what 'ints' leaves -/
def IntsOut (w : World) (B : Nat) (col : Nat → Nat) (wb : Nat) (ln : Nat → Nat) (xs : Nat → List Value) (c : Nat) (lv : Value) (w' : World) : Prop :=
  ∃ col' rv' ws, ws.length = 4 ∧ WR w' B col' wb rv' (up (up ln 4 (ln 4 + 4)) 5 (ln 5 + 4)) (up (up xs 4 (xs 4 ++ ws)) 5 (xs 5 ++ List.replicate 4 (mkV c))) c ∧ (∀ v ∈ ws, MarkN w' (fun k => col' k = 8) v c) ∧ Turn (fun x => x = 1 ∨ x = 4 ∨ x = 5) B w w' col col' ∧ Fr (fun k => col k ≠ 0 ∨ lv.ownBlock = some k) w w' ∧ ∀ q, q < w.heap.size → col q = 0 → lv.ownBlock ≠ some q → col' q = 0

theorem IS.done (h : IS w B col wb ln xs c lv col1 rv1 4 4 ws l N wr) (hws : ws.length = 4) (hB : B ≤ w.heap.size) (hlv : ∀ q, lv.ownBlock = some q → B ≤ q) : IntsOut w B col wb ln xs c lv wr := by
  have hT : Turn (fun x => x = 1 ∨ x = 4 ∨ x = 5) B wr wr col1 (fun q => if col1 q = 0 ∧ (w.heap.size ≤ q ∨ lv.ownBlock = some q) ∧ q < wr.heap.size then 8 else col1 q) := by
    refine Turn.paint h.cb (fun k hk => by rw [if_neg (fun e => hk e.1)]) (fun k hk h0 => ?_)
    by_cases e : col1 k = 0 ∧ (w.heap.size ≤ k ∨ lv.ownBlock = some k) ∧ k < wr.heap.size
    · refine ⟨?_, e.2.2⟩
      rcases e.2.1 with h1 | h1
      · omega
      · exact hlv k h1
    · rw [if_neg e] at hk
      exact absurd h0 hk
  refine ⟨_, rv1, ws, hws, h.wl.turn (C := fun _ => False) ?_ (fun _ _ _ f => f), fun v hv => (h.marks v hv).1.keep (Nat.le_refl _) (fun k hk hl => ⟨if_pos ⟨hk.1, hk.2.2, hl⟩, rfl⟩), h.turn.trans hT, h.fr, fun q hq h0 hn => ?_⟩
  · exact ⟨hT.size, fun _ _ _ _ => rfl, hT.old, hT.new⟩
  · rw [if_neg (fun e => by
      rcases e.2.1 with h1 | h1
      · omega
      · exact hn h1)]
    exact h.zero q hq h0

end

end Go.Proofs.Ytgpplekabohneaa
