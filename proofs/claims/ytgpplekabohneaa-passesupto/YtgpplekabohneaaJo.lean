/- 'tells' of the statement: the program's table and the document's agree; the lists that came out are marked. -/
import Derived.Test.YtgpplekabohneaaJj
import Derived.Test.YtgpplekabohneaaXh
import Derived.Test.YtgpplekabohneaaHa
namespace Go.Proofs.Ytgpplekabohneaa
open Go.RowKit

attribute [local go_sem ↓] Go.wp_at_zero Go.wp_at_succ

/-- P2: a table, and the answer -/
def tabB (BB : List (Int × Tn)) (tag : Int) : List Mp × Int :=
  match BB.find? (isT tag) with
  | some x => (tableF x.2, 0)
  | none => ([], 5)

theorem rowF_mem (l : List Mp) (p : Int) : ∀ (n : Nat) (q : Int), ∀ m ∈ rowF l p n q, m ∈ l
  | 0, _, m, h => by cases h
  | n + 1, q, m, h => by
    rw [rowF] at h
    rcases List.mem_append.1 h with h | h
    · cases hf : l.find? (isP p q) with
      | none => rw [hf] at h; cases h
      | some y =>
        rw [hf] at h
        have e : m = y := by simpa using h
        rw [e]
        exact List.mem_of_find?_eq_some hf
    · exact rowF_mem l p n (q + 1) m h

theorem tableF_mem {T : Tn} {m : Mp} (h : m ∈ tableF T) : m ∈ T.maps := by
  unfold tableF at h
  rcases List.mem_append.1 h with h | h
  · exact rowF_mem _ _ _ _ m h
  · rcases List.mem_append.1 h with h | h
    · exact rowF_mem _ _ _ _ m h
    · exact rowF_mem _ _ _ _ m h

theorem tabB_good {BB : List (Int × Tn)} (hG : ∀ y ∈ BB, GoodT y.2) (tag : Int) : (tabB BB tag).1.length ≤ 192 ∧ ∀ m ∈ (tabB BB tag).1, m.peers.length ≤ 4 := by
  unfold tabB
  cases hf : BB.find? (isT tag) with
  | none => exact ⟨by simp, fun m hm => by cases hm⟩
  | some x =>
    have hx := hG x (List.mem_of_find?_eq_some hf)
    refine ⟨?_, fun m hm => (hx.ok m (tableF_mem hm)).2.2.2.2.1⟩
    have := upTo_len hx 3
    rw [upTo_three] at this
    exact this

section
variable {w : World} {B : Nat} {col : Nat → Nat} {wb i : Nat} {bs : List BX} {ps : List Pk} {nl yl : List (Value × Nat)} {c : Nat}

theorem ptable_any {F : Nat → Prop} {b : Nat} {BB : List (Int × Tn)} (h : BoxR w F b BB) (tag : Int) :
    Calls Try.prog 19 #[.pointer (some ⟨b, 0, none⟩), .int .i64 tag] w fun e w' => ∃ lv, e = .returned (.tuple #[lv, .int .i64 (tabB BB tag).2]) ∧ TabD w' w.heap.size lv (tabB BB tag).1 ∧ Below w.heap.size w w' := by
  obtain ⟨r, C, h1, rfl, _, _⟩ := h
  unfold tabB
  cases hf : (C.map fun x => (x.tag, x.T)).find? (isT tag) with
  | none =>
    refine (B0.table_none h1 tag (fun x hx e => ?_)).mono ?_
    · have := List.find?_eq_none.1 hf (x.tag, x.T) (List.mem_map.2 ⟨x, hx, rfl⟩)
      exact this (by simp [isT, e])
    · rintro e w' ⟨rfl, rfl⟩
      exact ⟨_, rfl, ⟨[], rfl, World.ownsRow_nil _ _ _ _, by simp, List.Pairwise.nil⟩, Below.refl _ _⟩
  | some y =>
    have hm := List.mem_of_find?_eq_some hf
    have ht := List.find?_some hf
    obtain ⟨x, hx, rfl⟩ := List.mem_map.1 hm
    have e1 : x.tag = tag := by simpa [isT] using ht
    rw [← e1]
    exact Table_someD h1 hx

theorem rtable_any {S : Nat → Prop} {r : Nat} {tv lv : Value} {ts : List Ten} {L : List RCl} (h : RefR w S r tv lv ts L) (hA : ∀ j (hj : j < ts.length), GoodT (absT ts[j] j L)) (hP : ∀ x ∈ L, okP x.m) (tag : Int) :
    Calls Try.prog 56 #[.pointer (some ⟨r, 0, none⟩), .int .i64 tag] w fun e w' => ∃ lv', e = .returned (.tuple #[lv', .int .i64 (tabB (absB ts L) tag).2]) ∧ TabR w' w.heap.size lv' (tabB (absB ts L) tag).1 ∧ Below w.heap.size w w' := by
  unfold tabB
  cases hp : placeF ts tag with
  | none =>
    rw [place_none hp]
    refine (rtable_none h hp).mono ?_
    rintro e w' ⟨rfl, rfl⟩
    exact ⟨_, rfl, ⟨[], rfl, World.ownsRow_nil _ _ _ _, by simp⟩, Below.refl _ _⟩
  | some t =>
    obtain ⟨ht, h1, h2⟩ := place_some (L := L) hp
    rw [h2]
    exact rtable_some h ht hp (hA t ht) hP

def TellsOut (w : World) (B : Nat) (col : Nat → Nat) (wb : Nat) (bs : List BX) (ps : List Pk) (c : Nat) (w' : World) : Prop :=
  ∃ col' nl' yl' c', WI w' B col' wb bs ps nl' yl' c' ∧ c' ≤ c + 193 ∧ Ext w w' col col'

/-- what came out of the program's table is marked -/
theorem WI.tab {W w' : World} (h : WI w B col wb bs ps nl yl c) (hbW : Below w.heap.size w W) {rv : Nat → Value} {ln : Nat → Nat} {xs : Nat → List Value} (hX : WX ln xs bs ps nl yl) {lv : Value} {R : List (Mp × Value)} (hlv : ∀ k, lv.ownBlock = some k → w.heap.size ≤ k) (hpe : ∀ y ∈ R, ∀ k, y.2.ownBlock = some k → w.heap.size ≤ k) (hn : R.length ≤ 192)
    (hT : TabOut W B col wb ln xs c lv R w') (_hW : WR W B col wb rv ln xs c) : TellsOut w B col wb bs ps c w' := by
  obtain ⟨col', rv', nl1, ws, hl1, hl2, hW', hM1, hM2, hTu, hF, hz⟩ := hT
  have hWI := h.below hbW
  have hcb' : ∀ k, col' k ≠ 0 → k < w'.heap.size := fun k hk => (hW'.cb k hk).2
  have sz := hbW.size
  refine ⟨col', nl ++ nl1, yl ++ ws.map (fun v => (v, c + R.length + 1)), c + R.length + 1, ⟨⟨rv', _, _, hW', ?_⟩, fun j hj => (hWI.boxes j hj).turn hTu (Calm.of hF) (by omega) (by omega) hcb', fun p hp => ?_, fun p hp => ?_, h.nb, h.np, ?_⟩, by omega, ?_, fun q hq h0 => hz q (by omega) h0 (fun e => by have := hlv q e; omega) (fun y hy e => by have := hpe y hy q e; omega)⟩
  · have a1 : (ws.map fun v => (v, c + R.length + 1)).map (·.1) = ws := by
      rw [List.map_map]
      exact List.map_id _
    have a2 : (ws.map fun v => (v, c + R.length + 1)).map (fun p : Value × Nat => ckV p.2) = List.replicate 4 (ckV (c + R.length + 1)) := by
      rw [List.map_map, ← hl2]
      show ws.map (fun _ => ckV (c + R.length + 1)) = _
      exact List.map_const' ..
    refine ⟨?_, ?_, ?_, ?_, ?_, ?_, ?_, ?_, ?_, ?_, ?_, ?_⟩
    · simp [up]; exact hX.l2
    · simp [up]; exact hX.x2
    · simp [up]; exact hX.l3
    · simp [up]; exact hX.x3
    · simp [up]; rw [hX.l4]
    · simp [up]; rw [hX.x4]
    · simp [up]; rw [hX.l5]
    · simp [up]; rw [hX.x5]
    · simp [up]; rw [hX.l6, hl2]
    · simp only [up, List.map_append, a1]; simp; rw [hX.x6]
    · simp [up]; rw [hX.l7, hl2]
    · simp only [up, List.map_append, a2]; simp; rw [hX.x7]
  · rcases List.mem_append.1 hp with hp | hp
    · exact ⟨(hWI.nums p hp).1.keep hTu.size (hTu.at (by decide) (by omega)), by have := (hWI.nums p hp).2; omega⟩
    · exact ⟨(hM1 p hp).1, by have := (hM1 p hp).2; omega⟩
  · rcases List.mem_append.1 hp with hp | hp
    · exact ⟨(hWI.marks p hp).1.keep hTu.size (hTu.at (by decide) (by omega)), by have := (hWI.marks p hp).2; omega⟩
    · obtain ⟨v, hv, rfl⟩ := List.mem_map.1 hp
      exact ⟨hM2 v hv, Nat.le_refl _⟩
  · have := h.few
    rw [List.length_append, List.length_append, List.length_map, hl1, hl2]
    omega
  · refine (Fr.of_below hbW).trans' hF (fun k hk hl => ?_)
    rcases hk with hk | hk | ⟨y, hy, hk⟩
    · exact hk
    · have := hlv k hk
      omega
    · have := hpe y hy k hk
      omega

set_option maxHeartbeats 4000000 in
set_option maxRecDepth 100000 in
theorem wtells_any (h : WI w B col wb bs ps nl yl c) (hc : c ≤ 800000000) (hi : i < bs.length) (tag : Int) :
    Calls Try.prog 35 #[.pointer (some ⟨wb, 0, none⟩), .agg #[.pointer (some ⟨bs[i].b, 0, none⟩), .pointer (some ⟨bs[i].r, 0, none⟩)], .int .i64 tag] w fun e w' => e = .returned (.bool true) ∧ TellsOut w B col wb bs ps c w' := by
  have hbx := h.boxes i hi
  have hgd := tabB_good (boxR_tags hbx.box).2 tag
  have HP1 := fun W (hW : Below w.heap.size w W) => hide (ptable_any (hbx.box.new hW) tag)
  have HP2 := fun W (hW : Below w.heap.size w W) => hide (rtable_any (hbx.ref.new hW) hbx.good (hbx.each hbx.okp) tag)
  obtain ⟨bb, hbb⟩ : ∃ b, bs[i].b = b := ⟨_, rfl⟩
  obtain ⟨br, hbr⟩ : ∃ b, bs[i].r = b := ⟨_, rfl⟩
  obtain ⟨⟨ms, er⟩, hX⟩ : ∃ X, tabB (absB bs[i].ts bs[i].L) tag = X := ⟨_, rfl⟩
  rw [hX, hbb] at HP1
  rw [hX, hbr] at HP2
  rw [hX] at hgd
  rw [hbb, hbr]
  dsimp only at HP1 HP2 hgd
  have HH := hide h
  have HGD := hide hgd
  have HC := hide hc
  clear hX hbb hbr h hbx hgd hc
  go_enter Try.func35, Try.ntmps35
  go_wp2_with fail
  refine (unhide (HP1 _ ((Below.refl _ _).alloc (Nat.le_refl _) _))).mono ?_
  rintro e w1 ⟨lv, rfl, hTD, hb1⟩
  have x1 : w1.cell? ⟨w.heap.size, 1, none⟩ = some (.pointer (some ⟨br, 0, none⟩)) := (hb1.cell (p := ⟨w.heap.size, 1, none⟩) (by simp)).trans (by simp)
  have HB1 : Hid (Below w.heap.size w w1) := ((Below.refl _ _).alloc (Nat.le_refl _) _).trans (hb1.mono (by simp))
  have hs1 : w.heap.size + 1 ≤ w1.heap.size := by have := hb1.size; simpa using this
  obtain ⟨R, hR, hRo, hRp, hRd⟩ := hTD
  obtain ⟨la, lc, rfl, lk1, lk2, -⟩ := rowN_cells hRo
  have HR := hide (And.intro hR (And.intro hRo (And.intro hRp hRd)))
  clear hb1 HP1 hR hRo hRp hRd
  go_wp2_with fail
  refine (unhide (HP2 _ (unhide HB1))).mono ?_
  rintro e w2 ⟨mv, rfl, hTR, hb2⟩
  obtain ⟨R', hR', hRo', hRp'⟩ := hTR
  obtain ⟨ma, mc, rfl, mk1, mk2, -⟩ := rowN_cells hRo'
  have HR2 := hide (And.intro hR' (And.intro hRo' hRp'))
  have HB2 := hide hb2
  obtain ⟨n, hn⟩ : ∃ n, ms.length = n := ⟨_, rfl⟩
  have HN := hide hn
  rw [hn] at HR HR2 lk1 mk1
  rw [hn]
  clear HP2 hR' hRo' hRp' hb2 hn x1
  have e34 := eq34 9998
  unfold maxLen at lk2 mk2
  go_upto_block 0 with fail
  go_cut [11] from 12 to 154 (fun z wx => z = .bool true ∧ Below w2.heap.size w2 wx)
  case first =>
    go_wp2_with fail
    go_loopg [11, 12] n (fun k ok i wr => ∃ j : Nat, j ≤ n ∧ k = n - j ∧ ok = .bool true ∧ i = .int .i64 j ∧ Below w2.heap.size w2 wr)
    case atStart => exact ⟨0, Nat.zero_le _, by omega, rfl, rfl, Below.refl _ _⟩
    case round =>
      obtain ⟨j, hj, hk, rfl, rfl, hbr2⟩ := hrel
      have HK := hide hk
      have HBR := hide hbr2
      clear hk
      by_cases hlt : j < n
      · obtain ⟨hR, hRo, hRp, -⟩ := unhide HR
        obtain ⟨hR', hRo', hRp'⟩ := unhide HR2
        have hjm : j < ms.length := by have := unhide HN; omega
        have hjR : j < R.length := by rw [← hR, List.length_map] at hjm; exact hjm
        have hjR' : j < R'.length := by rw [← hR', List.length_map] at hjm; exact hjm
        have e1 : R[j].1 = ms[j] := by
          have : (R.map (·.1))[j]'(by rw [List.length_map]; exact hjR) = ms[j] := by simp only [hR]
          rw [List.getElem_map] at this
          exact this
        have e2 : R'[j].1 = ms[j] := by
          have : (R'.map (·.1))[j]'(by rw [List.length_map]; exact hjR') = ms[j] := by simp only [hR']
          rw [List.getElem_map] at this
          exact this
        have hRo2 := rowOfBlock (w' := wr) hRo (fun k hk => (hbr2.block k (Nat.lt_of_lt_of_le (hRo.lt k hk).2 (unhide HB2).size)).trans ((unhide HB2).block k (hRo.lt k hk).2))
        have hRo2' := rowOfBlock (w' := wr) hRo' (fun k hk => hbr2.block k (hRo'.lt k hk).2)
        have hpj := hRp _ (List.getElem_mem hjR)
        have hpj2 := rowOfBlock (w' := wr) hpj (fun k hk => (hbr2.block k (Nat.lt_of_lt_of_le (hpj.lt k hk).2 (unhide HB2).size)).trans ((unhide HB2).block k (hpj.lt k hk).2))
        have hpj' := hRp' _ (List.getElem_mem hjR')
        have hpj2' := rowOfBlock (w' := wr) hpj' (fun k hk => hbr2.block k (hpj'.lt k hk).2)
        rw [e1] at hpj2
        rw [e2] at hpj2'
        obtain ⟨a1, c1, hl1, -, -, k3⟩ := rowN_cells hRo2
        obtain ⟨a2, c2, hl2, -, -, k4⟩ := rowN_cells hRo2'
        simp only [Value.slice.injEq] at hl1 hl2
        obtain ⟨rfl, -, rfl⟩ := hl1
        obtain ⟨rfl, -, rfl⟩ := hl2
        obtain ⟨g, rfl, hg, hcell⟩ := k3 (by omega)
        obtain ⟨g', rfl, hg', hcell'⟩ := k4 (by omega)
        have at1 : ∀ o u, o < 7 → (rowC R[j].1 R[j].2)[o]? = some u → wr.cell? ⟨g, j * 7 + o, none⟩ = some u := fun o u ho hu => hcell _ _ ((flat_at R j o hjR ho).trans hu)
        have at2 : ∀ o u, o < 7 → (rowC R'[j].1 R'[j].2)[o]? = some u → wr.cell? ⟨g', j * 7 + o, none⟩ = some u := fun o u ho hu => hcell' _ _ ((flat_at R' j o hjR' ho).trans hu)
        rw [e1] at at1
        rw [e2] at at2
        obtain ⟨sv, hsv⟩ : ∃ v, R[j].2 = v := ⟨_, rfl⟩
        obtain ⟨sv', hsv'⟩ : ∃ v, R'[j].2 = v := ⟨_, rfl⟩
        rw [hsv] at at1 hpj2
        rw [hsv'] at at2 hpj2'
        obtain ⟨m, hm⟩ : ∃ m, ms[j] = m := ⟨_, rfl⟩
        rw [hm] at at1 at2 hpj2 hpj2'
        obtain ⟨pa, pc, rfl, pk1, pk2, pk3⟩ := row1_cells hpj2
        obtain ⟨qa, qc, rfl, qk1, qk2, qk3⟩ := row1_cells hpj2'
        obtain ⟨proto, ia, ip, port, peers, st, idle, fo, fi⟩ := m
        have l0 : wr.cell? ⟨g, j * 7, none⟩ = some (.int .i64 proto) := at1 0 _ (by omega) rfl
        have l1 := at1 1 _ (by omega) rfl
        have l2 := at1 2 _ (by omega) rfl
        have l3 := at1 3 _ (by omega) rfl
        have l4 := at1 4 _ (by omega) rfl
        have l5 := at1 5 _ (by omega) rfl
        have l6 := at1 6 _ (by omega) rfl
        have r0 : wr.cell? ⟨g', j * 7, none⟩ = some (.int .i64 proto) := at2 0 _ (by omega) rfl
        have r1 := at2 1 _ (by omega) rfl
        have r2 := at2 2 _ (by omega) rfl
        have r3 := at2 3 _ (by omega) rfl
        have r4 := at2 4 _ (by omega) rfl
        have r5 := at2 5 _ (by omega) rfl
        have r6 := at2 6 _ (by omega) rfl
        dsimp only at l0 l1 l2 l3 l4 l5 l6 r0 r1 r2 r3 r4 r5 r6 pk1 pk2 pk3 qk1 qk2 qk3
        obtain ⟨pn, hpn⟩ : ∃ pn, peers.length = pn := ⟨_, rfl⟩
        rw [hpn] at l4 r4 pk1 qk1 pk3 qk3
        have HPN := hide hpn
        have HP3 := hide pk3
        have HQ3 := hide qk3
        unfold maxLen at pk2 qk2
        clear at1 at2 hpj2 hpj2' hpj hpj' hRo2 hRo2' hRo hRo' hRp hRp' hR hR' e1 e2 hsv hsv' hm k3 k4 hcell hcell' pk3 qk3 hpn
        have x34 : ∀ w, (Op.equalIn (9998 + 2) 34 (.agg #[.int .i64 ia, .int .i64 ip]) (.agg #[.int .i64 ia, .int .i64 ip])).run Try.prog w = .ok true w := fun w => by
          rw [e34]
          simp
        clear e34
        obtain ⟨wo, hwo⟩ : ∃ wo, wo = wr := ⟨_, rfl⟩
        subst hwo
        go_wp2_with fail
        simp only [List.append_eq, List.cons_append, List.nil_append]
        go_big_quiet (fail)
        go_wp2_with fail
        clear x34 l0 l1 l2 l3 l5 l6 r0 r1 r2 r3 r5 r6
        go_loopg [11, 13] pn (fun z ok i wr => ∃ k : Nat, k ≤ pn ∧ z = pn - k ∧ ok = .bool true ∧ i = .int .i64 k ∧ Below wo.heap.size wo wr)
        case atStart => exact ⟨0, Nat.zero_le _, by omega, rfl, rfl, below_drewN (Below.refl _ _) _⟩
        case round =>
          obtain ⟨k, hk, hz, rfl, rfl, hb3⟩ := hrel
          have HY := hide hz
          have HB3 := hide hb3
          have lt : ∀ (a : Addr) (v : Value), wo.cell? a = some v → wr.cell? a = some v := fun a v ha => (hb3.cell (World.block_lt_of_cell? wo a ha)).trans ha
          have y4 := lt _ _ l4
          have z4 := lt _ _ r4
          have LT := hide lt
          have hlo : w2.heap.size ≤ wo.heap.size := (unhide HBR).size
          clear hz hb3 lt l4 r4
          by_cases hkp : k < pn
          · have hkl : k < peers.length := by have := unhide HPN; omega
            obtain ⟨b1, rfl, hb1, hc1⟩ := unhide HP3 (by omega)
            obtain ⟨b2, rfl, hb2, hc2⟩ := unhide HQ3 (by omega)
            have v1 := unhide LT _ _ (hc1 k (.int .i64 peers[k]) (by simp [intsV, hkl]))
            have v2 := unhide LT _ _ (hc2 k (.int .i64 peers[k]) (by simp [intsV, hkl]))
            clear hc1 hc2
            generalize peers[k] = pp at v1 v2
            go_wp2_with fail
            go_big_quiet (fail)
            go_wp2_with fail
            go_roundg (pn - (k + 1))
            case measure => have := unhide HY; omega
            case rel => exact ⟨k + 1, by omega, rfl, rfl, by go_num, below_drewN (unhide HB3) _⟩
          · go_wp2_with fail
            go_roundg (n - (j + 1))
            case measure => have := unhide HK; omega
            case rel => exact ⟨j + 1, by omega, rfl, rfl, by go_num, (unhide HBR).trans ((unhide HB3).mono hlo)⟩
      · go_wp2_with fail
        go_meet
        exact ⟨rfl, unhide HBR⟩
  case rest =>
  obtain ⟨rfl, hb3⟩ := hcut
  have HT : Hid (Calls Try.prog 57 #[.pointer (some ⟨wb, 0, none⟩), .slice la n lc] wc fun e w' => e = .returned (.tuple #[]) ∧ TellsOut w B col wb bs ps c w') := by
    obtain ⟨hR, hRo, hRp, hRd⟩ := unhide HR
    have hlen : R.length = n := by rw [← unhide HN, ← hR, List.length_map]
    have hb13 : Below w1.heap.size w1 wc := (unhide HB2).trans (hb3.mono (unhide HB2).size)
    have hbw : Below w.heap.size w wc := (unhide HB1).trans (hb13.mono (by omega))
    have hWI := (unhide HH).below hbw
    obtain ⟨rv, ln, xs, hW, hX⟩ := hWI.rows
    obtain ⟨hBw, hwB, -⟩ := (unhide HH).base
    have hcb := (unhide HH).cb
    have hz0 : ∀ k, w.heap.size ≤ k → col k = 0 := fun k hk => Classical.byContradiction (fun hn => by have := (hcb k hn).2; omega)
    have hBs : B ≤ w.heap.size + 1 := by omega
    have hf := (unhide HH).few
    have hmem : ∀ y ∈ R, y.1 ∈ ms := fun y hy => by rw [← hR]; exact List.mem_map.2 ⟨y, hy, rfl⟩
    have hRo3 : wc.ownsRow B 52 7 (.slice la n lc) R.length (R.flatMap fun y => rowC y.1 y.2) := by
      rw [hlen]
      exact row_keepB hRo (by simpa using hBs) (X := fun _ => False) (Fr.of_below hb13) (fun _ _ _ f => f)
    have hRp3 : ∀ y ∈ R, wc.ownsRow B 3 1 y.2 y.1.peers.length (intsV y.1.peers) ∧ ∀ k, y.2.ownBlock = some k → w.heap.size ≤ k := fun y hy =>
      ⟨row_keepB (hRp y hy) (by simpa using hBs) (X := fun _ => False) (Fr.of_below hb13) (fun _ _ _ f => f), fun k hk => by have := ((hRp y hy).lt k hk).1; simp at this; omega⟩
    have hlv : ∀ k, (Value.slice la n lc).ownBlock = some k → w.heap.size ≤ k := fun k hk => by have := (hRo.lt k hk).1; simp at this; omega
    have h192 : R.length ≤ 192 := by rw [hlen, ← unhide HN]; exact (unhide HGD).1
    refine (wtab_any hW (unhide HC) (by rw [hX.l4]; exact hf.1) (by rw [hX.l5]; exact hf.1) (by rw [hX.l6]; exact hf.2) (by rw [hX.l7]; exact hf.2) hRo3 (fun k hk => hz0 k (hlv k hk)) (fun y hy => ⟨(hRp3 y hy).1, fun k hk => hz0 k ((hRp3 y hy).2 k hk)⟩) hRd (fun y hy => (unhide HGD).2 _ (hmem y hy)) h192).mono ?_
    rintro e w' ⟨rfl, hO⟩
    exact ⟨rfl, (unhide HH).tab hbw hX hlv (fun y hy => (hRp3 y hy).2) h192 hO hW⟩
  clear hb3 HR HR2 HB1 HB2 HH HGD HC HN e34
  go_wp2_with fail
  refine (unhide HT).mono ?_
  rintro e w4 ⟨rfl, hO⟩
  have HO := hide hO
  clear hO HT
  go_wp2
  go_ret
  exact ⟨rfl, unhide HO⟩

end

end Go.Proofs.Ytgpplekabohneaa
