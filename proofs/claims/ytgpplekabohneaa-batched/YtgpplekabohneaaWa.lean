/- Table. -/
import Derived.Test.YtgpplekabohneaaQr
import Derived.Maps.RangeWalk
import Derived.Test.YtgpplekabohneaaQs
import Derived.Test.YtgpplekabohneaaRv
import Derived.Test.YtgpplekabohneaaPq
import Derived.Shelf.Slices.Clone
namespace Go.Proofs.Ytgpplekabohneaa
section
open Go.RowKit Go.Shelf

/-- the numbers of this program: slices.Clone is function 64, []int is type 50 -/
def ren15 : Ren := ⟨fun _ => 71, fun n => if n = 22 then 50 else n, fun n => n⟩

theorem lays15 : Lays2.n15 Try.prog ren15 where
  mixed := by kernel_rfl
  f15 := by kernel_rfl
  t3 := by kernel_rfl
  a3 := fun _ => by kernel_rfl
  z3 := fun _ => by kernel_rfl
  v3 := fun _ => by kernel_rfl
  t4 := by kernel_rfl
  a4 := fun _ => by kernel_rfl
  z4 := fun _ => by kernel_rfl
  v4 := fun _ => by kernel_rfl
  t22 := by kernel_rfl
  a22 := fun _ => by kernel_rfl
  z22 := fun _ => by kernel_rfl
  v22 := fun _ => by kernel_rfl
  i3 := by kernel_rfl

theorem clone_any (sv : Value) (zs : List Int) (w : World) (hl : zs.length ≤ 4) (hown : w.ownsRow 0 3 1 sv zs.length (intsV zs)) :
    Calls Try.prog 71 #[sv] w fun e w' => ∃ sv', e = .returned sv' ∧ w'.ownsRow w.heap.size 3 1 sv' zs.length (intsV zs) ∧ Below w.heap.size w w' := by
  rcases hown.2 with ⟨rfl, hn⟩ | ⟨b, cap, cur, rfl, _⟩
  · have hz : zs = [] := List.eq_nil_of_length_eq_zero hn
    subst hz
    refine (Any.slices_Clone_int_nil lays15 0 0 w).mono ?_
    rintro e w' ⟨rfl, rfl⟩
    exact ⟨_, rfl, World.ownsRow_nil _ _ _ _, Below.refl _ _⟩
  · refine (Any.slices_Clone_int lays15 b 0 zs.length cap zs w (Nat.le_refl _) (by omega) (fun j hj => ?_)).mono ?_
    · rw [Nat.zero_add, row_cell hown hj]
      simp [List.getD, hj]
    · rintro e w' ⟨v', rfl, h1, _, h2⟩
      refine ⟨v', rfl, ?_, h2⟩
      rw [List.take_length] at h1
      exact h1

def rowC (m : Mp) (sv : Value) : List Value := [.int .i64 m.proto, .int .i64 m.ia, .int .i64 m.ip, .int .i64 m.port, sv, .int .i64 m.st, .int .i64 m.idle]

theorem row_slice {w : World} {B : Nat} {sv : Value} {n : Nat} {xs : List Value} (h : w.ownsRow B 3 1 sv n xs) : ∃ ao l c, sv = .slice ao l c := by
  rcases h.2 with ⟨rfl, _⟩ | ⟨b, cap, cur, rfl, _⟩
  · exact ⟨_, _, _, rfl⟩
  · exact ⟨_, _, _, rfl⟩

theorem row_keepB {w w' : World} {B B' : Nat} {e : TypeId} {sz : Nat} {sv : Value} {n : Nat} {xs : List Value} {X : Nat → Prop} (h : w.ownsRow B e sz sv n xs) (hB : B' ≤ B) (hF : Fr X w w') (hX : ∀ k, sv.ownBlock = some k → B ≤ k → ¬ X k) : w'.ownsRow B' e sz sv n xs := by
  refine ⟨h.1, ?_⟩
  rcases h.2 with h' | ⟨b, cap, cur, rfl, hb, hg, rest⟩
  · exact .inl h'
  · exact .inr ⟨b, cap, cur, rfl, by omega, hF.some hg (hX b rfl hb), rest⟩

theorem Fr.set2 {a b : World} {n : Nat} (h : Fr (fun k => k = n ∨ k = n + 1) a b) {p : Addr} {u : Value} (hp : p.block = n ∨ p.block = n + 1) : Fr (fun k => k = n ∨ k = n + 1) a (b.setCell p u) := h.setCell u (fun _ => hp)

set_option maxHeartbeats 2000000 in
theorem told_any (g : Nat) (sv : Value) (m : Mp) (w : World) (hM : Mem w g sv m) (hlen : m.peers.length ≤ 4) :
    Calls Try.prog 51 #[.pointer (some ⟨g, 0, none⟩)] w fun e w' => ∃ sv', e = .returned (.agg #[.int .i64 m.proto, .int .i64 m.ia, .int .i64 m.ip, .int .i64 m.port, sv', .int .i64 m.st, .int .i64 m.idle]) ∧ w'.ownsRow w.heap.size 3 1 sv' m.peers.length (intsV m.peers) ∧ Below w.heap.size w w' := by
  have hC : ∀ W, Below w.heap.size w W → Hid (Calls Try.prog 71 #[sv] W fun e w' => ∃ sv', e = .returned sv' ∧ w'.ownsRow W.heap.size 3 1 sv' m.peers.length (intsV m.peers) ∧ Below W.heap.size W w') := fun W hb =>
    clone_any sv m.peers W hlen (ownsRow_keep hM.2 (Fr.of_below (X := fun _ => False) hb) (fun _ _ f => f))
  obtain ⟨hlt, c0, c1, c2, c3, c4, c5, c6, -, -, -⟩ := hM.cells
  obtain ⟨ao, l, cp, rfl⟩ := row_slice hM.2
  clear hM
  go_enter Try.func51, Try.ntmps51
  go_wp2_with fail
  have hbW : Below w.heap.size w ((w.alloc (.cells #[.int .i64 0, .int .i64 0, .int .i64 0, .int .i64 0, .slice none 0 0, .int .i64 0, .int .i64 0] 52)).alloc (.cells #[.int .i64 m.proto, .int .i64 m.ia, .int .i64 m.ip, .int .i64 m.port, .slice ao l cp, .int .i64 m.st, .int .i64 m.idle] 52)) := ((Below.refl _ _).alloc (Nat.le_refl _) _).alloc (by simp) _
  refine (unhide (hC _ hbW)).mono ?_
  rintro e w1 ⟨sv', rfl, hO1, hb1⟩
  obtain ⟨ao', l', cp', rfl⟩ := row_slice hO1
  have hz : w.heap.size + 2 ≤ w1.heap.size := by have := hb1.size; simpa using this
  have hr1 : w1.heap[w.heap.size]? = some (.cells #[.int .i64 0, .int .i64 0, .int .i64 0, .int .i64 0, .slice none 0 0, .int .i64 0, .int .i64 0] 52 (0, 0)) := (hb1.block _ (by simp; omega)).trans (blkA (blkN _ _ _ rfl))
  have hc1 : w1.heap[w.heap.size + 1]? = some (.cells #[.int .i64 m.proto, .int .i64 m.ia, .int .i64 m.ip, .int .i64 m.port, .slice ao l cp, .int .i64 m.st, .int .i64 m.idle] 52 (0, 0)) := (hb1.block _ (by simp)).trans (blkN _ _ _ (by simp))
  obtain ⟨r0, r1, r2, r3, r4, r5, r6, rz⟩ : w1.cell? ⟨w.heap.size, 0, none⟩ = some (.int .i64 0) ∧ w1.cell? ⟨w.heap.size, 1, none⟩ = some (.int .i64 0) ∧ w1.cell? ⟨w.heap.size, 2, none⟩ = some (.int .i64 0) ∧ w1.cell? ⟨w.heap.size, 3, none⟩ = some (.int .i64 0) ∧ w1.cell? ⟨w.heap.size, 4, none⟩ = some (.slice none 0 0) ∧ w1.cell? ⟨w.heap.size, 5, none⟩ = some (.int .i64 0) ∧ w1.cell? ⟨w.heap.size, 6, none⟩ = some (.int .i64 0) ∧ ∀ o, w1.frozen? ⟨w.heap.size, o, none⟩ = false := by
    refine ⟨?_, ?_, ?_, ?_, ?_, ?_, ?_, fun o => ?_⟩ <;> simp [World.cell?, World.frozen?, hr1]
  obtain ⟨s0, s1, s2, s3, s4, s5, s6, sz⟩ : w1.cell? ⟨w.heap.size + 1, 0, none⟩ = some (.int .i64 m.proto) ∧ w1.cell? ⟨w.heap.size + 1, 1, none⟩ = some (.int .i64 m.ia) ∧ w1.cell? ⟨w.heap.size + 1, 2, none⟩ = some (.int .i64 m.ip) ∧ w1.cell? ⟨w.heap.size + 1, 3, none⟩ = some (.int .i64 m.port) ∧ w1.cell? ⟨w.heap.size + 1, 4, none⟩ = some (.slice ao l cp) ∧ w1.cell? ⟨w.heap.size + 1, 5, none⟩ = some (.int .i64 m.st) ∧ w1.cell? ⟨w.heap.size + 1, 6, none⟩ = some (.int .i64 m.idle) ∧ ∀ o, w1.frozen? ⟨w.heap.size + 1, o, none⟩ = false := by
    refine ⟨?_, ?_, ?_, ?_, ?_, ?_, ?_, fun o => ?_⟩ <;> simp [World.cell?, World.frozen?, hc1]
  have HX := hide (And.intro hO1 (And.intro hb1 (And.intro hbW (And.intro hr1 hc1))))
  clear hO1 hb1 hbW hr1 hc1 hC
  go_wp2
  refine bodyPost_ret (v := .agg #[.int .i64 m.proto, .int .i64 m.ia, .int .i64 m.ip, .int .i64 m.port, .slice ao' l' cp', .int .i64 m.st, .int .i64 m.idle]) (by simp [results, Try.results51, go_sem, r0, r1, r2, r3, r4, r5, r6]) rfl ⟨_, rfl, ?_, ?_⟩
  · obtain ⟨hO1, hb1, hbW, hr1, hc1⟩ := unhide HX
    refine row_keepB (X := fun k => k = w.heap.size ∨ k = w.heap.size + 1) hO1 (by simp; omega) ?_ (fun k _ hk => by simp at hk; omega)
    repeat (refine Fr.set2 ?_ (.inl rfl))
    refine Fr.set2 ?_ (.inr rfl)
    exact Fr.refl _ _
  · obtain ⟨hO1, hb1, hbW, hr1, hc1⟩ := unhide HX
    repeat (refine Below.setCell ?_ (by simp) _)
    exact hbW.trans (hb1.mono (by simp; omega))
end

section

theorem rowF_snoc (l : List Mp) (p : Int) : ∀ (n : Nat) (q : Int), rowF l p (n + 1) q = rowF l p n q ++ (match l.find? (isP p (q + n)) with | some m => [m] | none => [])
  | 0, q => by
    simp only [rowF, List.append_nil, List.nil_append]
    have : q + ((0 : Nat) : Int) = q := by omega
    rw [this]
    cases l.find? (isP p q) <;> rfl
  | n + 1, q => by
    have ih := rowF_snoc l p n (q + 1)
    rw [rowF, ih, rowF]
    have : q + 1 + (n : Int) = q + ((n + 1 : Nat) : Int) := by omega
    rw [this, List.append_assoc]

/-- the rows ahead of Proto k -/
def upTo (T : Tn) : Nat → List Mp
  | 0 => []
  | k + 1 => upTo T k ++ rowF T.maps (k + 1) (T.high + 1 - T.low).toNat T.low

theorem upTo_three (T : Tn) : upTo T 3 = tableF T := by
  simp only [upTo, tableF, List.nil_append, List.append_assoc]
  rfl

theorem nodup_lt : ∀ (n : Nat) (l : List Nat), l.Nodup → (∀ x ∈ l, x < n) → l.length ≤ n
  | 0, [], _, _ => Nat.le_refl _
  | 0, x :: _, _, h => by have := h x (.head _); omega
  | n + 1, l, hn, h => by
    have h1 : (l.erase n).length ≤ n := nodup_lt n (l.erase n) (hn.erase n) (fun x hx => by
      have h2 := (hn.mem_erase_iff).1 hx
      have := h x h2.2
      omega)
    have h3 : l.length ≤ (l.erase n).length + 1 := by
      rw [List.length_erase]
      split <;> omega
    omega

def codeM (T : Tn) (m : Mp) : Nat := ((m.proto - 1) * 64 + (m.port - T.low)).toNat

theorem good_few {T : Tn} (h : GoodT T) : T.maps.length ≤ 192 := by
  have h1 := h.span
  have := nodup_lt 192 (T.maps.map (codeM T)) (by
    refine List.pairwise_map.2 (h.apart.imp_of_mem ?_)
    intro a b ha hb hab e
    obtain ⟨a1, a2, a3, a4, _⟩ := h.ok a ha
    obtain ⟨b1, b2, b3, b4, _⟩ := h.ok b hb
    apply hab.1
    unfold codeM at e
    omega) (by
    intro x hx
    obtain ⟨m, hm, rfl⟩ := List.mem_map.1 hx
    obtain ⟨a1, a2, a3, a4, _⟩ := h.ok m hm
    unfold codeM
    omega)
  simpa using this

theorem rowF_len (l : List Mp) (p : Int) : ∀ (n : Nat) (q : Int), (rowF l p n q).length ≤ n
  | 0, _ => Nat.le_refl _
  | n + 1, q => by
    have := rowF_len l p n (q + 1)
    rw [rowF, List.length_append]
    split <;> simp <;> omega
end

section
open Go.RowKit

/-- a table in memory: its rows, the lists of peers in them -/
def TabR (W : World) (base : Nat) (lv : Value) (ms : List Mp) : Prop :=
  ∃ R : List (Mp × Value), R.map (·.1) = ms ∧ W.ownsRow base 52 7 lv ms.length (R.flatMap fun y => rowC y.1 y.2) ∧ ∀ y ∈ R, W.ownsRow base 3 1 y.2 y.1.peers.length (intsV y.1.peers)

theorem row_kind {w : World} {B B' : Nat} {e e' : TypeId} {sz sz' : Nat} {v v' : Value} {n n' : Nat} {xs xs' : List Value} (h : w.ownsRow B e sz v n xs) (h' : w.ownsRow B' e' sz' v' n' xs') (he : e ≠ e') {k : Nat} (hk : v.ownBlock = some k) : v'.ownBlock ≠ some k := by
  intro hk'
  rcases h.2 with ⟨rfl, _⟩ | ⟨b, cap, cur, rfl, _, hb, _⟩
  · cases hk
  · rcases h'.2 with ⟨rfl, _⟩ | ⟨b', cap', cur', rfl, _, hb', _⟩
    · cases hk'
    · cases hk
      cases hk'
      rw [hb] at hb'
      cases hb'
      exact he rfl

theorem TabR.snoc {W W1 W3 : World} {base g2 cap2 : Nat} {lv sv' : Value} {ms : List Mp} {m : Mp} {R : List (Mp × Value)} {o : Obj} (hR : R.map (·.1) = ms) (hL : W.ownsRow base 52 7 lv ms.length (R.flatMap fun y => rowC y.1 y.2)) (hP : ∀ y ∈ R, W.ownsRow base 3 1 y.2 y.1.peers.length (intsV y.1.peers))
    (hbase : base ≤ W.heap.size) (hb1 : Below W.heap.size W W1) (hsv : W1.ownsRow W.heap.size 3 1 sv' m.peers.length (intsV m.peers)) (hO3 : W3.ownsRow base 52 7 (.slice (some ⟨g2, 0, none⟩) (ms.length + 1) cap2) (ms.length + 1) ((R.flatMap fun y => rowC y.1 y.2) ++ rowC m sv'))
    (hG3 : (lv.ownBlock = some g2 ∧ (W1.alloc o).grownBy W3 (some g2)) ∨ (g2 = (W1.alloc o).heap.size ∧ (W1.alloc o).grownBy W3 none)) :
    TabR W3 base (.slice (some ⟨g2, 0, none⟩) (ms.length + 1) cap2) (ms ++ [m]) := by
  have hF1 : Fr (fun _ => False) W W1 := Fr.of_below hb1
  have hF3 : Fr (fun k => lv.ownBlock = some k) W1 W3 := by
    rcases hG3 with ⟨h1, h2⟩ | ⟨_, h2⟩
    · exact ((Fr.refl _ W1).alloc o).trans (Fr.of_grown h2 (fun k hk _ => by cases hk; exact h1))
    · exact ((Fr.refl _ W1).alloc o).trans (Fr.of_grown h2 (fun k hk _ => by cases hk))
  have hL1 := row_keepB hL (Nat.le_refl _) hF1 (fun _ _ _ f => f)
  refine ⟨R ++ [(m, sv')], by simp [hR], ?_, ?_⟩
  · rw [List.length_append, List.flatMap_append]
    simpa using hO3
  · intro y hy
    rcases List.mem_append.1 hy with hy | hy
    · have h1 := row_keepB (hP y hy) (Nat.le_refl _) hF1 (fun _ _ _ f => f)
      exact row_keepB h1 (Nat.le_refl _) hF3 (fun k hk _ hk' => row_kind h1 hL1 (by decide) hk hk')
    · rw [List.mem_singleton.1 hy]
      exact row_keepB hsv hbase hF3 (fun k hk _ hk' => row_kind hsv hL1 (by decide) hk hk')

def mapZ : Value := .agg #[.int .i64 0, .int .i64 0, .int .i64 0, .int .i64 0, .slice none 0 0, .int .i64 0, .int .i64 0]
theorem info52 : (Try.prog.info? 52).map (fun i => (i.zero, i.size, i.bytes)) = some (some mapZ, 7, 72) := by kernel_rfl

theorem run_lenMap (w : World) (h c : Nat) (es : Array MapEntry) (hh : w.heap[h]? = some (.map es c)) (_hs : es.size ≤ 192) (ty : TypeId) : (Builtin.len_ #[101] ty #[.map (some h)]).run Try.prog w = .ok (.int .i64 es.size) w := by
  simp [Builtin.len_, run_underlying Try.underlying101, MapKept.run_getObj_map hh, goInt, Result.andThen]

theorem upTo_len {T : Tn} (h : GoodT T) : ∀ k : Nat, (upTo T k).length ≤ k * 64
  | 0 => Nat.le_refl _
  | k + 1 => by
    have h1 := upTo_len h k
    have h2 := rowF_len T.maps (k + 1) (T.high + 1 - T.low).toNat T.low
    have h3 := h.span
    rw [upTo, List.length_append]
    omega

set_option maxHeartbeats 4000000 in
set_option maxRecDepth 100000 in
theorem table_ten {w : World} {S : Nat → Prop} {g hp hi : Nat} {T : Tn} {L : List Cl} (h : TenR w S g hp hi T L) :
    Calls Try.prog 30 #[.pointer (some ⟨g, 0, none⟩)] w fun e w' => ∃ lv, e = .returned lv ∧ TabR w' w.heap.size lv (tableF T) ∧ Below w.heap.size w w' := by
  obtain ⟨i0, hi0, hz0, hz1, hz2⟩ := info_parts info52
  obtain ⟨es, c, a1, a2, _⟩ := h.mp
  have hes : es.size ≤ 192 := by
    have h1 := good_few h.good
    have h2 := congrArg List.length a2
    have h3 := congrArg List.length h.maps
    simp at h2 h3
    omega
  have hlen := fun ty => run_lenMap w hp c es a1 hes ty
  have hmk := run_make (P := Try.prog) w 43 52 i0 mapZ Try.underlying43 hi0 hz0 .i64 .i64 0 es.size (Int.le_refl _) (by omega) (by rw [hz2]; omega) (by omega)
  have HI := hide (And.intro hi0 (And.intro hz0 (And.intro hz1 hz2)))
  obtain ⟨l1, -, c1, c2, c3, -⟩ := h.cells
  have hlo := h.good.low
  have hhi := h.good.high
  have hle := h.good.le
  have HT := hide h
  clear h a2 hi0 hz0 hz2
  rw [hz1] at hmk
  simp only [Int.toNat_zero, Int.toNat_natCast] at hmk
  have HST : Hid (TabR (w.alloc (.cells (madeCells mapZ.cells (es.size * 7)) 52)) w.heap.size (.slice (some ⟨w.heap.size, 0, none⟩) 0 es.size) (upTo T 0)) := by
    refine ⟨[], rfl, ?_, by simp⟩
    have := World.ownsRow_made (e := 52) (size := 7) (base := w.heap.size) w (madeCells mapZ.cells (es.size * 7)) es.size (Nat.le_refl _) (by unfold maxLen; omega) (by simp [madeCells])
    simpa [upTo] using this
  generalize hWm : w.alloc (.cells (madeCells mapZ.cells (es.size * 7)) 52) = wm at *
  have hbm : Below w.heap.size w wm := by rw [← hWm]; exact (Below.refl _ _).alloc (Nat.le_refl _) _
  have HBM := hide hbm
  clear hWm hbm hz1 a1
  go_enter Try.func30, Try.ntmps30
  go_wp2
  go_loopg [3, 4] 3 (fun k l p wr => ∃ j : Nat, j ≤ 3 ∧ k = 3 - j ∧ p = .int .i64 ((j : Int) + 1) ∧ TabR wr w.heap.size l (upTo T j) ∧ Below w.heap.size w wr)
  case atStart => exact ⟨0, by omega, by omega, rfl, unhide HST, unhide HBM⟩
  case round =>
    obtain ⟨j, hj, hk, rfl, hTab, hbl⟩ := hrel
    have HK := hide hk
    have HTab := hide hTab
    have HBl := hide hbl
    have hlo1 := (hbl.cell (p := ⟨g, 1, none⟩) l1).trans c1
    clear hk hTab hbl HST HBM
    by_cases hlt : j < 3
    · have hjl : (upTo T j).length ≤ j * 64 := upTo_len (unhide HT).good j
      generalize wr = wo at *
      have hj3 : decide ((j : Int) + 1 ≤ 3) = true := by simp; omega
      go_wp2
      go_loopg [3, 5] (T.high + 1 - T.low).toNat (fun k l q wr => ∃ x : Int, T.low ≤ x ∧ x ≤ T.high + 1 ∧ k = (T.high + 1 - x).toNat ∧ q = .int .i64 x ∧ TabR wr w.heap.size l (upTo T j ++ rowF T.maps ((j : Int) + 1) (x - T.low).toNat T.low) ∧ Below w.heap.size w wr)
      case atStart => exact ⟨T.low, by omega, by omega, rfl, rfl, by simpa [rowF] using unhide HTab, unhide HBl⟩
      case round =>
        obtain ⟨x, hx1, hx2, hk2, rfl, hTab2, hbl2⟩ := hrel
        have hc2 := (hbl2.cell (p := ⟨g, 2, none⟩) l1).trans c2
        have hc3 := (hbl2.cell (p := ⟨g, 3, none⟩) l1).trans c3
        have hszr := hbl2.size
        have hsp := (unhide HT).good.span
        have HTab2 := hide hTab2
        have HB2 := hide hbl2
        have HK2 := hide hk2
        clear hTab2 hbl2 hk2
        by_cases hxh : x ≤ T.high
        · have hsn := rowF_snoc T.maps ((j : Int) + 1) (x - T.low).toNat T.low
          have hsx : T.low + ((x - T.low).toNat : Int) = x := by omega
          have hsy : (x + 1 - T.low).toNat = (x - T.low).toNat + 1 := by omega
          rw [hsx] at hsn
          cases hf : T.maps.find? (isP ((j : Int) + 1) x) with
          | none =>
            rw [hf, List.append_nil] at hsn
            have HSN := hide hsn
            have HSY := hide hsy
            have hl := ((unhide HT).new (unhide HB2)).lookP_none hf
            clear hsn hsx hsy hf
            go_wp2
            go_roundg (T.high + 1 - (x + 1)).toNat
            case measure => have := unhide HK2; omega
            case rel => exact ⟨x + 1, by omega, by omega, rfl, rfl, by rw [unhide HSY, unhide HSN]; exact unhide HTab2, unhide HB2⟩
          | some m =>
            rw [hf] at hsn
            obtain ⟨y, hy, rfl⟩ := (unhide HT).ofFind hf
            have HSN := hide hsn
            have HSY := hide hsy
            have hl := ((unhide HT).new (unhide HB2)).lookP_some hy hf
            have hok := (unhide HT).good.ok y.m (List.mem_of_find?_eq_some hf)
            have HTO := hide (told_any y.g y.sv y.m wr (((unhide HT).new (unhide HB2)).mem y hy).1 hok.2.2.2.2.1)
            obtain ⟨R, hR, hL, hP⟩ := unhide HTab2
            have hrl := rowF_len T.maps ((j : Int) + 1) (x - T.low).toNat T.low
            have hnl : (upTo T j ++ rowF T.maps ((j : Int) + 1) (x - T.low).toNat T.low).length ≤ 192 := by
              rw [List.length_append]
              omega
            generalize hms : upTo T j ++ rowF T.maps ((j : Int) + 1) (x - T.low).toNat T.low = ms at *
            generalize hnn : ms.length = nn at *
            have HX := hide (And.intro hR (And.intro hL (And.intro hP (And.intro hms hnn))))
            clear hsn hsx hsy hf hy hok hR hL hP hrl hms hnn
            go_wp2_with fail
            refine (unhide HTO).mono ?_
            rintro e w1 ⟨sv', rfl, hsv, hb1⟩
            obtain ⟨ao, sl, sc, rfl⟩ := row_slice hsv
            have hs1 := hb1.size
            have HX1 := hide (And.intro hsv hb1)
            clear hsv hb1 HTO
            go_wp2_with (at_builtin; refine wpList_append_x _ rfl _ _ 43 rfl w.heap.size 52 i0 _ 7 72 Try.underlying43 (unhide HI).1 (unhide HI).2.1 (unhide HI).2.2.1 (unhide HI).2.2.2 rfl (by decide) _ nn (R.flatMap fun y => rowC y.1 y.2) rfl (row_keepB (unhide HX).2.1 (Nat.le_refl _) ((Fr.of_below (X := fun _ => False) (unhide HX1).2).alloc _) (fun _ _ _ f => f)) ⟨w1.heap.size, 0, none⟩ 1 1 (rowC y.m (.slice ao sl sc)) rfl rfl (World.news_of_block (by exact blkN w1 _ _ rfl)) (by simp [rowC, Value.oneCell']) (by omega) (by unfold maxLen; omega) (by omega) (by simp; omega) ?_; intro g2 cap2 w3 hO3 hG3; have HO3 := hide (And.intro hO3 hG3); clear hO3 hG3)
            go_roundg (T.high + 1 - (x + 1)).toNat
            case measure => have := unhide HK2; omega
            case rel =>
              obtain ⟨hR, hL, hP, hms, hnn⟩ := unhide HX
              obtain ⟨hsv, hb1⟩ := unhide HX1
              obtain ⟨hO3, hG3⟩ := unhide HO3
              refine ⟨x + 1, by omega, by omega, rfl, rfl, ?_, ?_⟩
              · rw [unhide HSY, unhide HSN, ← List.append_assoc, hms]
                subst hnn
                exact TabR.snoc hR hL hP hszr hb1 hsv hO3 hG3
              · have hb' : Below w.heap.size w (w1.alloc (.cells (rowC y.m (.slice ao sl sc)).toArray 52)) := ((unhide HB2).trans (hb1.mono hszr)).alloc (by omega) _
                rcases hG3 with ⟨h5, h6⟩ | ⟨h5, h6⟩
                · exact hb'.grown h6 (by simp; omega) (fun k hk => by cases hk; exact (hL.lt _ h5).1)
                · exact hb'.grown h6 (by simp; omega) (fun k hk => by cases hk)
        · have hxe : x = T.high + 1 := by omega
          subst hxe
          go_wp2
          go_roundg (3 - (j + 1))
          case measure => have := unhide HK; omega
          case rel => exact ⟨j + 1, by omega, rfl, by go_num, by rw [upTo]; have := unhide HTab2; exact this, unhide HB2⟩
    · have hj3 : j = 3 := by omega
      subst hj3
      go_wp2
      go_ret
      have hT := unhide HTab
      rw [upTo_three] at hT
      exact ⟨_, rfl, hT, unhide HBl⟩
end

end Go.Proofs.Ytgpplekabohneaa
