/- The document's box in memory: peers, 'used', 'tenant', 'byPort', 'byInside'. -/
import Derived.Test.YtgpplekabohneaaQr
import Derived.Deep.LoopGhost
import Derived.Test.YtgpplekabohneaaRy
import Derived.Deep.QuietTactic
import Derived.BigQuiet
import Derived.Deep.CutRange
import Derived.Deep.CutBlock
namespace Go.Proofs.Ytgpplekabohneaa
open Go.RowKit

theorem cellOf {w : World} {g : Nat} {cs : Array Value} {e : TypeId} {fz : Nat × Nat} (h : w.heap[g]? = some (.cells cs e fz)) (i : Nat) : w.cell? ⟨g, i, none⟩ = cs[i]? := by simp [World.cell?, h]

theorem below_app {B : Nat} {w W w3 : World} {v : Value} {g : Nat} (hb : Below B w W) (hB : B ≤ W.heap.size) (hv : ∀ k, v.ownBlock = some k → B ≤ k) (hG : (v.ownBlock = some g ∧ W.grownBy w3 (some g)) ∨ (g = W.heap.size ∧ W.grownBy w3 none)) : Below B w w3 := by
  rcases hG with ⟨h5, h6⟩ | ⟨h5, h6⟩
  · exact hb.grown h6 hB (fun k hk => by cases hk; exact hv _ h5)
  · exact hb.grown h6 hB (fun k hk => by cases hk)

theorem row_cap {w : World} {base e sz g n cap : Nat} {xs : List Value} (h : w.ownsRow base e sz (.slice (some ⟨g, 0, none⟩) n cap) n xs) : n ≤ cap ∧ cap ≤ maxLen ∧ base ≤ g ∧ g < w.heap.size := by
  rcases h.2 with ⟨h1, _⟩ | ⟨g', cap', cur, h1, hB, hb, hc, hm, _, _⟩
  · cases h1
  · cases h1
    exact ⟨hc, hm, hB, (Array.getElem?_eq_some_iff.1 hb).1⟩

theorem Fr.setG {a b : World} {g : Nat} (h : Fr (fun k => k = g) a b) {o : Nat} {u : Value} : Fr (fun k => k = g) a (b.setCell ⟨g, o, none⟩ u) := h.setCell u (fun _ => rfl)

/-- a list of peers, wherever in a block it begins -/
def PeerS (w : World) (v : Value) (ps : List Int) : Prop :=
  ∃ ao cap, v = .slice ao ps.length cap ∧ ps.length ≤ cap ∧ cap ≤ maxLen ∧ (0 < ps.length → ∃ b off, ao = some ⟨b, off, none⟩ ∧ b < w.heap.size ∧ ∀ k (h : k < ps.length), w.cell? ⟨b, off + k, none⟩ = some (.int .i64 ps[k]))

/-- the block of a slice -/
def sliceBlk : Value → Option Nat
  | .slice (some a) _ _ => some a.block
  | _ => none

theorem PeerS.keep {w w' : World} {v : Value} {ps : List Int} (h : PeerS w v ps) (hsz : w.heap.size ≤ w'.heap.size) (hk : ∀ b, sliceBlk v = some b → b < w.heap.size → w'.heap[b]? = w.heap[b]?) : PeerS w' v ps := by
  obtain ⟨ao, cap, rfl, h1, h2, h3⟩ := h
  refine ⟨ao, cap, rfl, h1, h2, fun h0 => ?_⟩
  obtain ⟨b, off, rfl, hb, hc⟩ := h3 h0
  exact ⟨b, off, rfl, by omega, fun k hk' => (World.cell?_of_block (a := ⟨b, off + k, none⟩) (hk b rfl hb)).trans (hc k hk')⟩

def refC (t : Nat) (m : Mp) (sv : Value) : Array Value := #[.int .i64 t, .int .i64 m.proto, .int .i64 m.ia, .int .i64 m.ip, .int .i64 m.port, sv, .int .i64 m.st, .int .i64 m.idle, .bool m.fo, .bool m.fi]

/-- a mapping of the document's -/
def RMem (w : World) (g : Nat) (sv : Value) (t : Nat) (m : Mp) : Prop :=
  w.heap[g]? = some (.cells (refC t m sv) 140 (0, 0)) ∧ PeerS w sv m.peers

theorem ref_cells {w : World} {g t : Nat} {m : Mp} {sv : Value} (h : w.heap[g]? = some (.cells (refC t m sv) 140 (0, 0))) :
    w.cell? ⟨g, 0, none⟩ = some (.int .i64 t) ∧ w.cell? ⟨g, 1, none⟩ = some (.int .i64 m.proto) ∧ w.cell? ⟨g, 2, none⟩ = some (.int .i64 m.ia) ∧ w.cell? ⟨g, 3, none⟩ = some (.int .i64 m.ip) ∧ w.cell? ⟨g, 4, none⟩ = some (.int .i64 m.port) ∧ w.cell? ⟨g, 5, none⟩ = some sv ∧ w.cell? ⟨g, 6, none⟩ = some (.int .i64 m.st) ∧ w.cell? ⟨g, 7, none⟩ = some (.int .i64 m.idle) ∧ w.cell? ⟨g, 8, none⟩ = some (.bool m.fo) ∧ w.cell? ⟨g, 9, none⟩ = some (.bool m.fi) ∧ (∀ o, w.frozen? ⟨g, o, none⟩ = false) ∧ g < w.heap.size := by
  refine ⟨?_, ?_, ?_, ?_, ?_, ?_, ?_, ?_, ?_, ?_, fun o => ?_, (Array.getElem?_eq_some_iff.1 h).1⟩
  all_goals first | simp [World.cell?, h, refC] | simp [World.frozen?, h]

theorem rspan_any (g : Nat) (proto state : Int) (w : World) (h0 : w.cell? ⟨g, 1, none⟩ = some (.int .i64 proto)) (h5 : w.cell? ⟨g, 6, none⟩ = some (.int .i64 state)) :
    Calls Try.prog 58 #[.pointer (some ⟨g, 0, none⟩)] w fun e w' => e = .returned (.int .i64 (spanF proto state)) ∧ w' = w := by
  unfold spanF
  by_cases h1 : proto = 1
  · rw [if_pos h1]
    subst h1
    go_enter Try.func58, Try.ntmps58
    go_wp2
    go_ret
    exact ⟨rfl, rfl⟩
  · rw [if_neg h1]
    have b1 : (proto == 1) = false := by simpa using h1
    by_cases h3 : proto = 3
    · rw [if_pos h3]
      subst h3
      go_enter Try.func58, Try.ntmps58
      go_wp2
      go_ret
      exact ⟨rfl, rfl⟩
    · rw [if_neg h3]
      have b3 : (proto == 3) = false := by simpa using h3
      by_cases s1 : state = 1
      · rw [if_pos s1]
        subst s1
        go_enter Try.func58, Try.ntmps58
        go_wp2
        go_ret
        exact ⟨rfl, rfl⟩
      · rw [if_neg s1]
        have c1 : (state == 1) = false := by simpa using s1
        by_cases s2 : state = 2
        · rw [if_pos s2]
          subst s2
          go_enter Try.func58, Try.ntmps58
          go_wp2
          go_ret
          exact ⟨rfl, rfl⟩
        · rw [if_neg s2]
          have c2 : (state == 2) = false := by simpa using s2
          go_enter Try.func58, Try.ntmps58
          go_wp2
          go_ret
          exact ⟨rfl, rfl⟩

set_option maxRecDepth 100000 in
theorem rpeer_any (g : Nat) (sv : Value) (ps : List Int) (x : Int) (w : World) (h5 : w.cell? ⟨g, 5, none⟩ = some sv) (hp : PeerS w sv ps) :
    Calls Try.prog 113 #[.pointer (some ⟨g, 0, none⟩), .int .i64 x] w fun e w' => e = .returned (.bool (ps.contains x)) ∧ w' = w := by
  obtain ⟨ao, cap, rfl, h1, h2, h3⟩ := hp
  obtain ⟨n, hn⟩ : ∃ n, ps.length = n := ⟨_, rfl⟩
  rw [hn] at h1 h5
  have H3 := hide h3
  have HN := hide hn
  unfold maxLen at h2
  clear h3 hn
  go_enter Try.func113, Try.ntmps113
  go_wp2_with fail
  go_loopg [5] n (fun k i wr => ∃ j : Nat, j ≤ n ∧ k = n - j ∧ i = .int .i64 j ∧ wr = w ∧ ∀ i (h : i < ps.length), i < j → ps[i] ≠ x)
  case atStart => exact ⟨0, Nat.zero_le _, by omega, rfl, rfl, fun i _ h => absurd h (by omega)⟩
  case round =>
    obtain ⟨j, hj, hk, rfl, hwr, hno⟩ := hrel
    have hwr2 := hwr.symm
    subst hwr2
    have HK := hide hk
    have HO := hide hno
    clear hwr hk hno
    by_cases hlt : j < n
    · obtain ⟨b, off, rfl, hb, hc⟩ := unhide H3 (by have := unhide HN; omega)
      have c0 := hc j (by have := unhide HN; omega)
      by_cases he : ps[j]'(by have := unhide HN; omega) = x
      · have hin : ps.contains x = true := by
          rw [List.contains_iff_mem, ← he]
          exact List.getElem_mem _
        rw [he] at c0
        have HI := hide hin
        clear hc he hin
        go_wp2_with fail
        go_ret
        exact ⟨by rw [unhide HI]; rfl, rfl⟩
      · have HO2 : Hid (∀ i (h : i < ps.length), i < j + 1 → ps[i] ≠ x) := fun i h hi => by
          by_cases e : i = j
          · subst e
            exact he
          · exact unhide HO i h (by omega)
        generalize ps[j]'(by have := unhide HN; omega) = y at c0 he
        have he2 : (y == x) = false := by simpa using he
        clear hc HO
        go_wp2_with fail
        go_roundg (n - (j + 1))
        case measure => have := unhide HK; omega
        case rel => exact ⟨j + 1, by omega, rfl, by go_num, rfl, unhide HO2⟩
    · have hin : ps.contains x = false := by
        rw [← Bool.not_eq_true, List.contains_iff_mem]
        intro hm
        obtain ⟨i, hi, he⟩ := List.getElem_of_mem hm
        exact unhide HO i hi (by have := unhide HN; omega) he
      have HI := hide hin
      clear hin
      go_wp2_with fail
      go_ret
      exact ⟨by rw [unhide HI]; rfl, rfl⟩

/-- the marks of a stream's packet, as the document has them -/
def rmarksF (m : Mp) (out syn fin rst : Bool) : Mp :=
  let m1 := if out && syn && m.st == 3 then { m with st := 1, fo := false, fi := false } else if !out && m.st == 1 then { m with st := 2 } else m
  let m2 := if fin then (if out then { m1 with fo := true } else { m1 with fi := true }) else m1
  if (m2.fo && m2.fi) || rst then { m2 with st := 3 } else m2

theorem rmarks_eq {m : Mp} (h : m.fo = true → m.fi = true → m.st = 3) (out syn fin rst : Bool) : rmarksF m out syn fin rst = marksF m out syn fin rst := by
  obtain ⟨proto, ia, ip, port, peers, st, idle, fo, fi⟩ := m
  dsimp only at h
  unfold rmarksF marksF
  by_cases h3 : st = 3
  · subst h3
    cases out <;> cases syn <;> cases fin <;> cases rst <;> cases fo <;> cases fi <;> rfl
  · have b3 : (st == 3) = false := by simpa using h3
    by_cases h1 : st = 1
    · subst h1
      cases out <;> cases syn <;> cases fin <;> cases rst <;> cases fo <;> cases fi <;> first | rfl | exact absurd (h rfl rfl) h3
    · have b1 : (st == 1) = false := by simpa using h1
      dsimp only
      rw [b3, b1]
      cases out <;> cases syn <;> cases fin <;> cases rst <;> cases fo <;> cases fi <;> first | rfl | exact absurd (h rfl rfl) h3

end Go.Proofs.Ytgpplekabohneaa

namespace Go.Proofs.Ytgpplekabohneaa
open Go.RowKit

/-- an address becomes the last peer, as the document has it -/
def ruseF (ps : List Int) (x : Int) : List Int := if 4 < (ps.filter (· != x) ++ [x]).length then (ps.filter (· != x) ++ [x]).drop 1 else ps.filter (· != x) ++ [x]

theorem filter_erase {x : Int} : ∀ {ps : List Int}, ps.Nodup → ps.filter (· != x) = ps.erase x
  | [], _ => rfl
  | y :: r, h => by
    obtain ⟨h1, h2⟩ := List.nodup_cons.1 h
    rw [List.filter_cons, List.erase_cons]
    by_cases e : y = x
    · subst e
      have : r.filter (· != y) = r := List.filter_eq_self.2 (fun a ha => by simpa using fun h : a = y => h1 (h ▸ ha))
      simp [this]
    · simp [e, filter_erase h2]

theorem ruse_eq {ps : List Int} (h : ps.Nodup) (x : Int) : ruseF ps x = useF ps x := by
  unfold ruseF useF
  rw [filter_erase h, List.eraseIdx_zero, List.drop_one]

theorem peerS_row {w : World} {base g n cap : Nat} {l : List Int} (h : w.ownsRow base 3 1 (.slice (some ⟨g, 0, none⟩) n cap) n (intsV l)) (hn : n = l.length) : PeerS w (.slice (some ⟨g, 0, none⟩) n cap) l := by
  subst hn
  rcases h.2 with ⟨h1, _⟩ | ⟨g', cap', cur, h1, _, hb, hc, hm, _, _⟩
  · cases h1
  · cases h1
    refine ⟨_, cap, rfl, hc, hm, fun _ => ⟨g, 0, rfl, (Array.getElem?_eq_some_iff.1 hb).1, fun k hk => ?_⟩⟩
    rw [Nat.zero_add, h.cellAt k (by omega)]
    simp [intsV, hk]

theorem peerS_drop {w : World} {base g n cap : Nat} {l : List Int} (h : w.ownsRow base 3 1 (.slice (some ⟨g, 0, none⟩) n cap) n (intsV l)) (hn : n = l.length) (h0 : 0 < n) : PeerS w (.slice (some ⟨g, 1, none⟩) (n - 1) (cap - 1)) (l.drop 1) := by
  subst hn
  rcases h.2 with ⟨h1, _⟩ | ⟨g', cap', cur, h1, _, hb, hc, hm, _, _⟩
  · cases h1
  · cases h1
    refine ⟨some ⟨g, 1, none⟩, cap - 1, by simp, by simp; omega, by omega, fun _ => ⟨g, 1, rfl, (Array.getElem?_eq_some_iff.1 hb).1, fun k hk => ?_⟩⟩
    have hk' : 1 + k < l.length := by simp at hk; omega
    rw [Nat.add_comm 1 k, h.cellAt (k + 1) (by omega)]
    have hk2 : k + 1 < l.length := by omega
    simp [intsV, hk2]

theorem filt_step (ps : List Int) (x : Int) (j : Nat) (h : j < ps.length) : (ps.take (j + 1)).filter (· != x) = (ps.take j).filter (· != x) ++ (if ps[j] = x then [] else [ps[j]]) := by
  rw [List.take_succ_eq_append_getElem h, List.filter_append]
  congr 1
  by_cases e : ps[j] = x
  · simp [e]
  · simp [e]

set_option maxHeartbeats 2000000 in
set_option maxRecDepth 100000 in
theorem rused_any (g t : Nat) (m : Mp) (sv : Value) (x : Int) (w : World) (h : RMem w g sv t m) (h4 : m.peers.length ≤ 4) :
    Calls Try.prog 114 #[.pointer (some ⟨g, 0, none⟩), .int .i64 x] w fun e w' => e = .returned (.tuple #[]) ∧ ∃ sv', w'.heap[g]? = some (.cells (refC t { m with peers := ruseF m.peers x } sv') 140 (0, 0)) ∧ PeerS w' sv' (ruseF m.peers x) ∧ (∀ b, sliceBlk sv' = some b → w.heap.size ≤ b) ∧ Fr (fun k => k = g) w w' := by
  obtain ⟨hblk, ao, cap, rfl, h1, h2, h3⟩ := h
  obtain ⟨mp, ia, ip, port, ps, st, idle, fo, fi⟩ := m
  dsimp only at h1 h2 h3 h4 ⊢
  obtain ⟨-, -, -, -, -, c5, -, -, -, -, fz, hg⟩ := ref_cells hblk
  obtain ⟨n, hn⟩ : ∃ n, ps.length = n := ⟨_, rfl⟩
  rw [hn] at h1 c5 h4
  have H3 := hide h3
  have HN := hide hn
  have HBK := hide hblk
  have f5 := fz 5
  unfold maxLen at h2
  obtain ⟨i0, hi, hz0, hz1, hz2⟩ := info_parts info3
  have HI := hide (And.intro hi (And.intro hz0 (And.intro hz1 hz2)))
  clear h3 hn hblk fz hi hz0 hz1 hz2
  go_enter Try.func114, Try.ntmps114
  go_wp2_with fail
  go_loopg [4, 5] n (fun k l i wr => ∃ j q : Nat, j ≤ n ∧ k = n - j ∧ i = .int .i64 j ∧ q ≤ j ∧ ((ps.take j).filter (· != x)).length = q ∧ wr.ownsRow w.heap.size 3 1 l q (intsV ((ps.take j).filter (· != x))) ∧ Below w.heap.size w wr)
  case atStart => exact ⟨0, 0, Nat.zero_le _, by omega, rfl, Nat.le_refl _, rfl, World.ownsRow_nil _ _ _ _, Below.refl _ _⟩
  case round =>
    obtain ⟨j, q, hj, hk, rfl, hq, hlen, hown, hbl⟩ := hrel
    have HK := hide hk
    have HO := hide hown
    have HB := hide hbl
    have HL := hide hlen
    have hsz := hbl.size
    have c5r := (hbl.cell (p := ⟨g, 5, none⟩) hg).trans c5
    have f5r := (hbl.frozen (p := ⟨g, 5, none⟩) hg).trans f5
    clear hk hown hbl hlen
    by_cases hlt : j < n
    · obtain ⟨b, off, rfl, hb, hc⟩ := unhide H3 (by have := unhide HN; omega)
      have c0 := ((unhide HB).cell (p := ⟨b, off + j, none⟩) hb).trans (hc j (by have := unhide HN; omega))
      have hst := filt_step ps x j (by have := unhide HN; omega)
      have HST := hide hst
      clear hc hst
      generalize ps[j]'(by have := unhide HN; omega) = y at c0 HST
      by_cases he : y = x
      · subst he
        have HST2 : Hid ((ps.take (j + 1)).filter (· != y) = (ps.take j).filter (· != y)) := (unhide HST).trans (by simp)
        clear HST
        go_wp2_with fail
        go_roundg (n - (j + 1))
        case measure => have := unhide HK; omega
        case rel => exact ⟨j + 1, q, by omega, rfl, by go_num, by omega, by rw [unhide HST2]; exact unhide HL, by rw [unhide HST2]; exact unhide HO, unhide HB⟩
      · have HST2 : Hid ((ps.take (j + 1)).filter (· != x) = (ps.take j).filter (· != x) ++ [y]) := (unhide HST).trans (by simp [he])
        have he2 : (y == x) = false := by simpa using he
        have c5a : ∀ X, (wr.alloc X).cell? ⟨g, 5, none⟩ = some (.slice (some ⟨b, off, none⟩) n cap) := fun X => cellA c5r
        clear HST
        go_wp2_with (at_builtin; refine wpList_append_x _ rfl _ _ 50 rfl w.heap.size 3 i0 _ 1 8 Try.underlying50 (unhide HI).1 (unhide HI).2.1 (unhide HI).2.2.1 (unhide HI).2.2.2 rfl (by decide) _ q (intsV ((ps.take j).filter (· != x))) rfl ((unhide HO).alloc _) ⟨wr.heap.size, 0, none⟩ 1 1 [.int .i64 y] rfl rfl (World.news_of_block (by exact blkN wr _ _ rfl)) (by simp [Value.oneCell']) (by omega) (by unfold maxLen; omega) (by omega) (by simp; omega) ?_; intro g2 cap2 w3 hO3 hG3; have HO3 := hide (And.intro hO3 hG3); clear hO3 hG3)
        go_roundg (n - (j + 1))
        case measure => have := unhide HK; omega
        case rel =>
          obtain ⟨hO3, hG3⟩ := unhide HO3
          refine ⟨j + 1, q + 1, by omega, rfl, by go_num, by omega, by rw [unhide HST2, List.length_append, unhide HL]; rfl, ?_, ?_⟩
          · rw [unhide HST2]
            simpa [intsV] using hO3
          · have hb' : Below w.heap.size w (wr.alloc (.cells #[.int .i64 y] 3)) := (unhide HB).alloc hsz _
            rcases hG3 with ⟨h5, h6⟩ | ⟨h5, h6⟩
            · exact hb'.grown h6 (by simp; omega) (fun k hk => by cases hk; exact ((unhide HO).lt _ h5).1)
            · exact hb'.grown h6 (by simp; omega) (fun k hk => by cases hk)
    · have hjn : j = n := by omega
      subst hjn
      have htk : ps.take j = ps := List.take_of_length_le (by have := unhide HN; omega)
      have HL2 : Hid ((ps.filter (· != x)).length = q) := by have := unhide HL; rw [htk] at this; exact this
      have HO2 : Hid (wr.ownsRow w.heap.size 3 1 u4 q (intsV (ps.filter (· != x)))) := by have := unhide HO; rw [htk] at this; exact this
      clear HO HL htk H3 HK
      by_cases hq4 : q = 4
      · subst hq4
        go_wp2_with (at_builtin; refine wpList_append_x _ rfl _ _ 50 rfl w.heap.size 3 i0 _ 1 8 Try.underlying50 (unhide HI).1 (unhide HI).2.1 (unhide HI).2.2.1 (unhide HI).2.2.2 rfl (by decide) _ 4 (intsV (ps.filter (· != x))) rfl ((unhide HO2).alloc _) ⟨wr.heap.size, 0, none⟩ 1 1 [.int .i64 x] rfl rfl (World.news_of_block (by exact blkN wr _ _ rfl)) (by simp [Value.oneCell']) (by omega) (by unfold maxLen; omega) (by omega) (by simp; omega) ?_; intro g2 cap2 w3 hO3 hG3; have hcap := row_cap hO3; have hb3 : Below w.heap.size w w3 := below_app ((unhide HB).alloc hsz _) (by simp; omega) (fun k hk => ((unhide HO2).lt k hk).1) hG3; have c53 := (hb3.cell (p := ⟨g, 5, none⟩) hg).trans c5; have f53 := (hb3.frozen (p := ⟨g, 5, none⟩) hg).trans f5; have HO3 := hide (And.intro hO3 hb3); clear hO3 hG3 hb3)
        go_end0
        obtain ⟨hO3, hb3⟩ := unhide HO3
        have hru : ruseF ps x = (ps.filter (· != x) ++ [x]).drop 1 := by
          unfold ruseF
          rw [if_pos (by rw [List.length_append, unhide HL2]; show 4 < 4 + 1; decide)]
        have hO4 : w3.ownsRow w.heap.size 3 1 (.slice (some ⟨g2, 0, none⟩) 5 cap2) 5 (intsV (ps.filter (· != x) ++ [x])) := by simpa [intsV] using hO3
        have hps := peerS_drop hO4 (by rw [List.length_append, unhide HL2]; rfl) (by decide)
        rw [hru]
        refine ⟨rfl, _, setB ((hb3.block g hg).trans (unhide HBK)) _ _, ?_, ?_, (Fr.of_below hb3).setG⟩
        · exact hps.keep (by simp) (fun b hb _ => Below.heap_setCell _ _ _ _ (by cases hb; have := hcap.2.2.1; show g2 ≠ g; omega))
        · intro b hb
          cases hb
          exact hcap.2.2.1
      · have hq3 : q ≤ 3 := by omega
        have e1 : decide (((q : Int) + 1) > 4) = false := by simp; omega
        have e2 : decide ((4 : Int) < (q : Int) + 1) = false := by simp; omega
        go_wp2_with (at_builtin; refine wpList_append_x _ rfl _ _ 50 rfl w.heap.size 3 i0 _ 1 8 Try.underlying50 (unhide HI).1 (unhide HI).2.1 (unhide HI).2.2.1 (unhide HI).2.2.2 rfl (by decide) _ q (intsV (ps.filter (· != x))) rfl ((unhide HO2).alloc _) ⟨wr.heap.size, 0, none⟩ 1 1 [.int .i64 x] rfl rfl (World.news_of_block (by exact blkN wr _ _ rfl)) (by simp [Value.oneCell']) (by omega) (by unfold maxLen; omega) (by omega) (by simp; omega) ?_; intro g2 cap2 w3 hO3 hG3; have hcap := row_cap hO3; have hb3 : Below w.heap.size w w3 := below_app ((unhide HB).alloc hsz _) (by simp; omega) (fun k hk => ((unhide HO2).lt k hk).1) hG3; have c53 := (hb3.cell (p := ⟨g, 5, none⟩) hg).trans c5; have f53 := (hb3.frozen (p := ⟨g, 5, none⟩) hg).trans f5; have HO3 := hide (And.intro hO3 hb3); clear hO3 hG3 hb3)
        go_end0
        obtain ⟨hO3, hb3⟩ := unhide HO3
        have hru : ruseF ps x = ps.filter (· != x) ++ [x] := by
          unfold ruseF
          rw [if_neg (by rw [List.length_append, unhide HL2]; show ¬ 4 < q + 1; omega)]
        have hO4 : w3.ownsRow w.heap.size 3 1 (.slice (some ⟨g2, 0, none⟩) (q + 1) cap2) (q + 1) (intsV (ps.filter (· != x) ++ [x])) := by simpa [intsV] using hO3
        have hps := peerS_row hO4 (by rw [List.length_append, unhide HL2]; rfl)
        rw [hru]
        refine ⟨rfl, _, setB ((hb3.block g hg).trans (unhide HBK)) _ _, ?_, ?_, (Fr.of_below hb3).setG⟩
        · exact hps.keep (by simp) (fun b hb _ => Below.heap_setCell _ _ _ _ (by cases hb; have := hcap.2.2.1; show g2 ≠ g; omega))
        · intro b hb
          cases hb
          exact hcap.2.2.1

end Go.Proofs.Ytgpplekabohneaa

namespace Go.Proofs.Ytgpplekabohneaa
open Go.RowKit

/-- a mapping of the document's box: where it lies, its list of peers, the place of its tenant -/
structure RCl where
  g : Nat
  sv : Value
  t : Nat
  m : Mp

structure RefR (w : World) (S : Nat → Prop) (r : Nat) (tv lv : Value) (ts : List Ten) (L : List RCl) : Prop where
  sr : S r
  bound : ∀ k, S k → k < w.heap.size
  blk : w.heap[r]? = some (.cells #[tv, lv] 137 (0, 0))
  tens : w.ownsRow 0 73 4 tv ts.length (tensC ts)
  rows : w.ownsRow 0 138 1 lv L.length (L.map fun x => ptrV x.g)
  tS : ∀ k, tv.ownBlock = some k → S k
  lS : ∀ k, lv.ownBlock = some k → S k
  mem : ∀ x ∈ L, RMem w x.g x.sv x.t x.m ∧ S x.g ∧ ∀ b, sliceBlk x.sv = some b → S b
  apart : L.Pairwise fun x y => x.g ≠ y.g
  nb : ∀ x ∈ L, ∀ b, sliceBlk x.sv = some b → b ≠ r ∧ lv.ownBlock ≠ some b ∧ ∀ y ∈ L, b ≠ y.g
  few : L.length ≤ 2000

/-- a row of one cell each -/
theorem row1_cells {w : World} {base e n : Nat} {v : Value} {xs : List Value} (h : w.ownsRow base e 1 v n xs) :
    ∃ ao cap, v = .slice ao n cap ∧ n ≤ cap ∧ cap ≤ maxLen ∧ (0 < n → ∃ g, ao = some ⟨g, 0, none⟩ ∧ g < w.heap.size ∧ ∀ (j : Nat) (u : Value), xs[j]? = some u → w.cell? ⟨g, j, none⟩ = some u) := by
  rcases h.2 with ⟨h1, h0⟩ | ⟨g, cap, cur, rfl, hbg, hg, hnc, hcm, hcs, htake⟩
  · exact ⟨none, 0, by rw [h1, h0], by omega, by unfold maxLen; omega, fun h => absurd h (by omega)⟩
  · refine ⟨_, cap, rfl, hnc, hcm, fun _ => ⟨g, rfl, (Array.getElem?_eq_some_iff.1 hg).1, fun j u hu => ?_⟩⟩
    have hj : j < xs.length := (List.getElem?_eq_some_iff.1 hu).1
    rw [h.cellAt j (by rw [← h.1]; exact hj)]
    exact hu

/-- the rows of a list of tenants -/
theorem row4_cells {w : World} {base : Nat} {v : Value} {ts : List Ten} (h : w.ownsRow base 73 4 v ts.length (tensC ts)) :
    ∃ ao cap, v = .slice ao ts.length cap ∧ ts.length ≤ cap ∧ cap ≤ maxLen ∧ (0 < ts.length → ∃ g, ao = some ⟨g, 0, none⟩ ∧ g < w.heap.size ∧ TenAt w g 0 ts) := by
  rcases h.2 with ⟨h1, h0⟩ | ⟨g, cap, cur, rfl, hbg, hg, hnc, hcm, hcs, htake⟩
  · exact ⟨none, 0, by rw [h1, h0], by omega, by unfold maxLen; omega, fun h => absurd h (by omega)⟩
  · exact ⟨_, cap, rfl, hnc, hcm, fun _ => ⟨g, rfl, (Array.getElem?_eq_some_iff.1 hg).1, tenAt_of_row h rfl⟩⟩

def ptrO : Option RCl → Value
  | none => .pointer none
  | some x => ptrV x.g

theorem find_first {α : Type} {l : List α} {p : α → Bool} {j : Nat} (hj : j < l.length) (hp : p l[j] = true) (hn : ∀ i (h : i < l.length), i < j → p l[i] = false) : l.find? p = some l[j] := by
  rw [List.find?_eq_some_iff_getElem]
  exact ⟨hp, j, hj, rfl, fun i hi => by simp [hn i (by omega) hi]⟩

theorem find_nowhere {α : Type} {l : List α} {p : α → Bool} (hn : ∀ i (h : i < l.length), p l[i] = false) : l.find? p = none := by
  rw [List.find?_eq_none]
  intro x hx
  obtain ⟨i, hi, rfl⟩ := List.getElem_of_mem hx
  simp [hn i hi]

theorem RefR.cells {w : World} {S : Nat → Prop} {r : Nat} {tv lv : Value} {ts : List Ten} {L : List RCl} (h : RefR w S r tv lv ts L) : w.cell? ⟨r, 0, none⟩ = some tv ∧ w.cell? ⟨r, 1, none⟩ = some lv ∧ (∀ o, w.frozen? ⟨r, o, none⟩ = false) ∧ r < w.heap.size := by
  refine ⟨cellOf h.blk 0, cellOf h.blk 1, fun o => ?_, (Array.getElem?_eq_some_iff.1 h.blk).1⟩
  simp [World.frozen?, h.blk]

def atP (t : Nat) (proto port : Int) (x : RCl) : Bool := x.t == t && isP proto port x.m
def atI (t : Nat) (proto a b : Int) (x : RCl) : Bool := x.t == t && isI proto a b x.m

set_option maxHeartbeats 2000000 in
set_option maxRecDepth 100000 in
theorem byPort_any {w : World} {S : Nat → Prop} {r : Nat} {tv lv : Value} {ts : List Ten} {L : List RCl} (h : RefR w S r tv lv ts L) (t : Nat) (proto port : Int) :
    Calls Try.prog 93 #[.pointer (some ⟨r, 0, none⟩), .int .i64 t, .int .i64 proto, .int .i64 port] w fun e w' => e = .returned (ptrO (L.find? (atP t proto port))) ∧ w' = w := by
  obtain ⟨-, c1, -, hr⟩ := h.cells
  obtain ⟨ao, cap, rfl, k1, k2, k3⟩ := row1_cells h.rows
  obtain ⟨n, hn⟩ : ∃ n, L.length = n := ⟨_, rfl⟩
  rw [hn] at k1 c1
  have HN := hide hn
  have H3 := hide k3
  have HM := hide h.mem
  unfold maxLen at k2
  clear h hn k3
  go_enter Try.func93, Try.ntmps93
  go_wp2_with fail
  go_loopg [9] n (fun k i wr => ∃ j : Nat, j ≤ n ∧ k = n - j ∧ i = .int .i64 j ∧ wr = w ∧ ∀ i (h : i < L.length), i < j → atP t proto port L[i] = false)
  case atStart => exact ⟨0, Nat.zero_le _, by omega, rfl, rfl, fun i _ h => absurd h (by omega)⟩
  case round =>
    obtain ⟨j, hj, hk, rfl, hwr, hno⟩ := hrel
    have hwr2 := hwr.symm
    subst hwr2
    have HK := hide hk
    have HO := hide hno
    clear hwr hk hno
    by_cases hlt : j < n
    · obtain ⟨b, rfl, hb, hc⟩ := unhide H3 (by have := unhide HN; omega)
      have c0 := hc j (ptrV (L[j]'(by have := unhide HN; omega)).g) (by simp [unhide HN, hlt])
      obtain ⟨⟨hblk, -⟩, -, -⟩ := unhide HM _ (List.getElem_mem (by have := unhide HN; omega : j < L.length))
      obtain ⟨m0, m1, m2, m3, m4, m5, -, -, -, -, -, mg⟩ := ref_cells hblk
      have HE : Hid (atP t proto port (L[j]'(by have := unhide HN; omega)) = ((L[j]'(by have := unhide HN; omega)).t == t && ((L[j]'(by have := unhide HN; omega)).m.proto == proto && (L[j]'(by have := unhide HN; omega)).m.port == port))) := rfl
      have HF := hide (fun (hp : atP t proto port (L[j]'(by have := unhide HN; omega)) = true) => find_first (l := L) (p := atP t proto port) (j := j) (by have := unhide HN; omega) hp (unhide HO))
      clear hc hblk
      unfold ptrV at c0
      generalize hx : L[j]'(by have := unhide HN; omega) = x at c0 m0 m1 m2 m3 m4 m5 mg HE HF
      have HX := hide hx
      clear hx
      obtain ⟨xg, xs, xt, ⟨q0, q1, q2, q3, qp, q5, q6, q7, q8⟩⟩ := x
      dsimp only at c0 m0 m1 m2 m3 m4 m5 mg HE
      have HO2 : Hid (atP t proto port ⟨xg, xs, xt, ⟨q0, q1, q2, q3, qp, q5, q6, q7, q8⟩⟩ = false → ∀ i (h : i < L.length), i < j + 1 → atP t proto port L[i] = false) := fun hf i h hi => by
        by_cases e : i = j
        · subst e
          have := unhide HX
          rw [← this] at hf
          exact hf
        · exact unhide HO i h (by omega)
      by_cases e1 : xt = t
      rotate_left
      · have b1 : ((xt : Int) == (t : Int)) = false := by simp; omega
        have HO3 := hide (unhide HO2 (by rw [unhide HE]; simp [e1]))
        clear HO HE HF HX HO2
        go_wp2_with fail
        go_roundg (n - (j + 1))
        case measure => have := unhide HK; omega
        case rel => exact ⟨j + 1, by omega, rfl, by go_num, rfl, unhide HO3⟩
      · by_cases e2 : q0 = proto
        rotate_left
        · have b1 : (q0 == proto) = false := by simpa using e2
          have HO3 := hide (unhide HO2 (by rw [unhide HE]; simp [e2]))
          subst e1
          clear HO HE HF HX HO2
          go_wp2_with fail
          go_roundg (n - (j + 1))
          case measure => have := unhide HK; omega
          case rel => exact ⟨j + 1, by omega, rfl, by go_num, rfl, unhide HO3⟩
        · by_cases e3 : q3 = port
          rotate_left
          · have b1 : (q3 == port) = false := by simpa using e3
            have HO3 := hide (unhide HO2 (by rw [unhide HE]; simp [e3]))
            subst e1
            subst e2
            clear HO HE HF HX HO2
            go_wp2_with fail
            go_roundg (n - (j + 1))
            case measure => have := unhide HK; omega
            case rel => exact ⟨j + 1, by omega, rfl, by go_num, rfl, unhide HO3⟩
          · have HF2 := hide (unhide HF (by rw [unhide HE]; simp [e1, e2, e3]))
            subst e1
            subst e2
            subst e3
            clear HO HE HF HX HO2
            go_wp2_with fail
            go_ret
            exact ⟨by rw [unhide HF2]; rfl, rfl⟩
    · have hnone : L.find? (atP t proto port) = none := find_nowhere (fun i hi => unhide HO i hi (by have := unhide HN; omega))
      have HI := hide hnone
      clear hnone
      go_wp2_with fail
      go_ret
      exact ⟨by rw [unhide HI]; rfl, rfl⟩

/-- the place of the tenant with a tag -/
def placeF (ts : List Ten) (tag : Int) : Option Nat := ts.findIdx? (fun t => t.tag == tag)
def placeV : Option Nat → Int
  | none => -1
  | some i => i

set_option maxHeartbeats 2000000 in
set_option maxRecDepth 100000 in
theorem tenant_any {w : World} {S : Nat → Prop} {r : Nat} {tv lv : Value} {ts : List Ten} {L : List RCl} (h : RefR w S r tv lv ts L) (tag : Int) :
    Calls Try.prog 92 #[.pointer (some ⟨r, 0, none⟩), .int .i64 tag] w fun e w' => e = .returned (.int .i64 (placeV (placeF ts tag))) ∧ w' = w := by
  obtain ⟨c0, -, -, hr⟩ := h.cells
  obtain ⟨ao, cap, rfl, k1, k2, k3⟩ := row4_cells h.tens
  obtain ⟨n, hn⟩ : ∃ n, ts.length = n := ⟨_, rfl⟩
  rw [hn] at k1 c0
  have HN := hide hn
  have H3 := hide k3
  unfold maxLen at k2
  clear h hn k3
  go_enter Try.func92, Try.ntmps92
  go_wp2_with fail
  go_loopg [5] n (fun k i wr => ∃ j : Nat, j ≤ n ∧ k = n - j ∧ i = .int .i64 j ∧ wr = w ∧ ∀ i (h : i < ts.length), i < j → ts[i].tag ≠ tag)
  case atStart => exact ⟨0, Nat.zero_le _, by omega, rfl, rfl, fun i _ h => absurd h (by omega)⟩
  case round =>
    obtain ⟨j, hj, hk, rfl, hwr, hno⟩ := hrel
    have hwr2 := hwr.symm
    subst hwr2
    have HK := hide hk
    have HO := hide hno
    clear hwr hk hno
    by_cases hlt : j < n
    · obtain ⟨b, rfl, hb, hc⟩ := unhide H3 (by have := unhide HN; omega)
      have d0 := (hc j (by have := unhide HN; omega)).1
      simp only [Nat.zero_add] at d0
      by_cases e1 : (ts[j]'(by have := unhide HN; omega)).tag = tag
      · have hp : placeF ts tag = some j := by
          unfold placeF
          rw [List.findIdx?_eq_some_iff_getElem]
          exact ⟨by have := unhide HN; omega, by simpa using e1, fun i hi => by simpa using unhide HO i (by have := unhide HN; omega) hi⟩
        rw [e1] at d0
        have HP := hide hp
        clear hc e1 hp HO
        go_wp2_with fail
        go_ret
        exact ⟨by rw [unhide HP]; rfl, rfl⟩
      · have HO2 : Hid (∀ i (h : i < ts.length), i < j + 1 → ts[i].tag ≠ tag) := fun i h hi => by
          by_cases e : i = j
          · subst e
            exact e1
          · exact unhide HO i h (by omega)
        generalize (ts[j]'(by have := unhide HN; omega)).tag = y at d0 e1
        have e2 : (y == tag) = false := by simpa using e1
        clear hc HO
        go_wp2_with fail
        go_roundg (n - (j + 1))
        case measure => have := unhide HK; omega
        case rel => exact ⟨j + 1, by omega, rfl, by go_num, rfl, unhide HO2⟩
    · have hp : placeF ts tag = none := by
        unfold placeF
        rw [List.findIdx?_eq_none_iff]
        intro x hx
        obtain ⟨i, hi, rfl⟩ := List.getElem_of_mem hx
        simpa using unhide HO i hi (by have := unhide HN; omega)
      have HP := hide hp
      clear hp HO
      go_wp2_with fail
      go_ret
      exact ⟨by rw [unhide HP]; rfl, rfl⟩

end Go.Proofs.Ytgpplekabohneaa

namespace Go.Proofs.Ytgpplekabohneaa
open Go.RowKit

set_option maxHeartbeats 2000000 in
set_option maxRecDepth 100000 in
theorem byInside_any {w : World} {S : Nat → Prop} {r : Nat} {tv lv : Value} {ts : List Ten} {L : List RCl} (h : RefR w S r tv lv ts L) (t : Nat) (proto pa pb : Int) :
    Calls Try.prog 112 #[.pointer (some ⟨r, 0, none⟩), .int .i64 t, .int .i64 proto, .agg #[.int .i64 pa, .int .i64 pb]] w fun e w' => e = .returned (ptrO (L.find? (atI t proto pa pb))) ∧ Below w.heap.size w w' := by
  obtain ⟨-, c1, -, hr⟩ := h.cells
  obtain ⟨ao, cap, rfl, k1, k2, k3⟩ := row1_cells h.rows
  obtain ⟨n, hn⟩ : ∃ n, L.length = n := ⟨_, rfl⟩
  rw [hn] at k1 c1
  have HN := hide hn
  have H3 := hide k3
  have HM := hide h.mem
  unfold maxLen at k2
  clear h hn k3
  go_enter Try.func112, Try.ntmps112
  go_wp2_with fail
  go_loopg [9] n (fun k i wr => ∃ j : Nat, j ≤ n ∧ k = n - j ∧ i = .int .i64 j ∧ (∃ nq, wr = (w.alloc (.cells #[.int .i64 pa, .int .i64 pb] 34)).drewN nq) ∧ ∀ i (h : i < L.length), i < j → atI t proto pa pb L[i] = false)
  case atStart => exact ⟨0, Nat.zero_le _, by omega, rfl, ⟨0, rfl⟩, fun i _ h => absurd h (by omega)⟩
  case round =>
    obtain ⟨j, hj, hk, rfl, ⟨nr, rfl⟩, hno⟩ := hrel
    have HK := hide hk
    have HO := hide hno
    clear hk hno
    by_cases hlt : j < n
    · obtain ⟨b, rfl, hb, hc⟩ := unhide H3 (by have := unhide HN; omega)
      have c0 := hc j (ptrV (L[j]'(by have := unhide HN; omega)).g) (by simp [unhide HN, hlt])
      obtain ⟨⟨hblk, -⟩, -, -⟩ := unhide HM _ (List.getElem_mem (by have := unhide HN; omega : j < L.length))
      obtain ⟨m0, m1, m2, m3, m4, m5, -, -, -, -, -, mg⟩ := ref_cells hblk
      have HE : Hid (atI t proto pa pb (L[j]'(by have := unhide HN; omega)) = ((L[j]'(by have := unhide HN; omega)).t == t && ((L[j]'(by have := unhide HN; omega)).m.proto == proto && ((L[j]'(by have := unhide HN; omega)).m.ia == pa && (L[j]'(by have := unhide HN; omega)).m.ip == pb)))) := rfl
      have HF := hide (fun (hp : atI t proto pa pb (L[j]'(by have := unhide HN; omega)) = true) => find_first (l := L) (p := atI t proto pa pb) (j := j) (by have := unhide HN; omega) hp (unhide HO))
      clear hc hblk
      unfold ptrV at c0
      generalize hx : L[j]'(by have := unhide HN; omega) = x at c0 m0 m1 m2 m3 m4 m5 mg HE HF
      have HX := hide hx
      clear hx
      obtain ⟨xg, xs, xt, ⟨q0, q1, q2, q3, qp, q5, q6, q7, q8⟩⟩ := x
      dsimp only at c0 m0 m1 m2 m3 m4 m5 mg HE
      have HO2 : Hid (atI t proto pa pb ⟨xg, xs, xt, ⟨q0, q1, q2, q3, qp, q5, q6, q7, q8⟩⟩ = false → ∀ i (h : i < L.length), i < j + 1 → atI t proto pa pb L[i] = false) := fun hf i h hi => by
        by_cases e : i = j
        · subst e
          have := unhide HX
          rw [← this] at hf
          exact hf
        · exact unhide HO i h (by omega)
      by_cases e1 : xt = t
      rotate_left
      · have b1 : ((xt : Int) == (t : Int)) = false := by simp; omega
        have HO3 := hide (unhide HO2 (by rw [unhide HE]; simp [e1]))
        clear HO HE HF HX HO2
        go_upto_region 5 with fail
        go_big_quiet (fail)
        go_wp2_with fail
        go_roundg (n - (j + 1))
        case measure => have := unhide HK; omega
        case rel => exact ⟨j + 1, by omega, rfl, by go_num, ⟨_, rfl⟩, unhide HO3⟩
      · by_cases e2 : q0 = proto
        rotate_left
        · have b1 : (q0 == proto) = false := by simpa using e2
          have HO3 := hide (unhide HO2 (by rw [unhide HE]; simp [e2]))
          subst e1
          clear HO HE HF HX HO2
          go_upto_region 5 with fail
          go_big_quiet (fail)
          go_wp2_with fail
          go_roundg (n - (j + 1))
          case measure => have := unhide HK; omega
          case rel => exact ⟨j + 1, by omega, rfl, by go_num, ⟨_, rfl⟩, unhide HO3⟩
        · by_cases e3 : q1 = pa
          rotate_left
          · have b1 : (q1 == pa) = false := by simpa using e3
            have HO3 := hide (unhide HO2 (by rw [unhide HE]; simp [e3]))
            subst e1
            subst e2
            clear HO HE HF HX HO2
            go_upto_region 5 with fail
            go_big_quiet (fail)
            go_wp2_with fail
            go_roundg (n - (j + 1))
            case measure => have := unhide HK; omega
            case rel => exact ⟨j + 1, by omega, rfl, by go_num, ⟨_, rfl⟩, unhide HO3⟩
          · by_cases e4 : q2 = pb
            rotate_left
            · have b1 : (q2 == pb) = false := by simpa using e4
              have HO3 := hide (unhide HO2 (by rw [unhide HE]; simp [e4]))
              subst e1
              subst e2
              subst e3
              clear HO HE HF HX HO2
              go_upto_region 5 with fail
              go_big_quiet (fail)
              go_wp2_with fail
              go_roundg (n - (j + 1))
              case measure => have := unhide HK; omega
              case rel => exact ⟨j + 1, by omega, rfl, by go_num, ⟨_, rfl⟩, unhide HO3⟩
            · have HF2 := hide (unhide HF (by rw [unhide HE]; simp [e1, e2, e3, e4]))
              subst e1
              subst e2
              subst e3
              subst e4
              clear HO HE HF HX HO2
              go_upto_region 5 with fail
              go_big_quiet (fail)
              go_wp2_with fail
              go_ret
              exact ⟨by rw [unhide HF2]; rfl, (((Below.refl _ _).alloc (Nat.le_refl _) _).trans ⟨rfl, rfl, rfl, by simp, fun _ _ => rfl⟩)⟩
    · have hnone : L.find? (atI t proto pa pb) = none := find_nowhere (fun i hi => unhide HO i hi (by have := unhide HN; omega))
      have HI := hide hnone
      clear hnone
      go_wp2_with fail
      go_ret
      exact ⟨by rw [unhide HI]; rfl, (((Below.refl _ _).alloc (Nat.le_refl _) _).trans ⟨rfl, rfl, rfl, by simp, fun _ _ => rfl⟩)⟩

end Go.Proofs.Ytgpplekabohneaa
