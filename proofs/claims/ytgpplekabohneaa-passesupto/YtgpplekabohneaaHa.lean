/- The program's box without mappings: New, Table, Tick of it, as 'Boxes' meets them. -/
import Derived.Test.YtgpplekabohneaaRy
namespace Go.Proofs.Ytgpplekabohneaa.B0
open Go.RowKit
open Go.ChangeMaps (setBlock)

theorem no_entries {es : Array MapEntry} {L : List Cl} (h : es.toList.map (fun e => (e.key, e.val)) = L.map (fun x => (kP x.m, ptrV x.g))) (hL : L = []) : es = #[] := by
  subst hL
  have : es.toList = [] := by simpa using h
  exact Array.toList_eq_nil_iff.1 this

theorem age_empty {w : World} {S : Nat → Prop} {g hp hi : Nat} {T : Tn} {L : List Cl} (h : TenR w S g hp hi T L) (hT : T.maps = []) (n : Int) :
    Calls Try.prog 27 #[.pointer (some ⟨g, 0, none⟩), .int .i64 n] w fun e w' => e = .returned (.tuple #[]) ∧ Below w.heap.size w w' := by
  obtain ⟨es, c, h1, h2, h3, h4⟩ := h.mp
  have hL : L = [] := List.map_eq_nil_iff.1 (h.maps.trans hT)
  have he := no_entries h2 hL
  subst he
  have hrg := run_range_map (P := Try.prog) w 101 106 107 hp #[] c Try.underlying101 h1
  obtain ⟨l1, -, -, -, c3, -⟩ := h.cells
  have hpl : hp < w.heap.size := (Array.getElem?_eq_some_iff.1 h1).1
  have k1 : (w.alloc (.mapIter (some hp) c #[] c)).heap[hp]? = some (.map #[] c) := blkA h1
  have K1 := hide k1
  clear h h1 h2 h3 h4 hL k1
  go_enter Try.func27, Try.ntmps27
  go_wp2
  go_loopg [5] 1 (fun k u wr => wr = w.alloc (.mapIter (some hp) c #[] c))
  case atStart => rfl
  case round =>
    subst hrel
    go_wp2_with (at_next; refine wpList_next_raw _ rfl _ rfl w.heap.size hp c c #[] #[] c rfl (blkN _ _ _ rfl) (unhide K1) (fun x hx => by simp at hx) (Nat.le_refl _) ?_ ?_)
    · intro h0
      go_wp2
      go_end0
      exact ⟨rfl, (Below.refl _ _).alloc (Nat.le_refl _) _⟩
    · intro e w1 hal
      obtain ⟨he, -⟩ := unhide hal
      obtain ⟨heM, -⟩ := mem_left (Array.mem_toList_iff.2 he)
      simp at heM

def tkE (seen : Array Nat) (es : Array MapEntry) : Nat := leftB seen (es.toList.map fun e => ((0, ⟨0, 0, 0, []⟩), e.born))

theorem tkE_push {seen : Array Nat} {es : Array MapEntry} {e : MapEntry} (he : e ∈ es.toList) (hn : seen.contains e.born = false) : tkE (seen.push e.born) es < tkE seen es :=
  leftB_push (z := ((0, ⟨0, 0, 0, []⟩), e.born)) (List.mem_map.2 ⟨e, he, rfl⟩) hn

def TkAt (w : World) (r c : Nat) (es : Array MapEntry) (k : Nat) (wr : World) : Prop :=
  ∃ seen : Array Nat, k = tkE seen es ∧ wr.heap[w.heap.size]? = some (.mapIter (some r) c seen c) ∧ Below w.heap.size w wr

set_option maxHeartbeats 2000000 in
set_option maxRecDepth 100000 in
theorem Tick_empty {w : World} {F : Nat → Prop} {b : Nat} {ts : List Ten} (h : BoxR w F b (newB ts)) (n : Int) (hn0 : 0 ≤ n) (hn1 : n ≤ 100000) :
    Calls Try.prog 16 #[.pointer (some ⟨b, 0, none⟩), .int .i64 n] w fun e w' => e = .returned (.int .i64 0) ∧ Below w.heap.size w w' := by
  obtain ⟨r, C, hC, hB, hft, hbd⟩ := h
  obtain ⟨es, c, h1, h2, h3, h4⟩ := hC.map
  have hrg := run_range_map (P := Try.prog) w 80 3 83 r es c Try.underlying80 h1
  obtain ⟨l1, c0'⟩ := hC.cell
  have hrl : r < w.heap.size := (Array.getElem?_eq_some_iff.1 h1).1
  have hE : ∀ x ∈ C, x.T.maps = [] := fun x hx => by
    have : (x.tag, x.T) ∈ newB ts := by rw [← hB]; exact List.mem_map.2 ⟨x, hx, rfl⟩
    obtain ⟨t, _, e⟩ := List.mem_map.1 this
    rw [← (Prod.mk.inj e).2]
  have HZ := hide (And.intro hC (And.intro h1 (And.intro h2 (And.intro h3 (And.intro h4 hE)))))
  have hne : (n < 0) = False := by simp; omega
  clear hC hB hft hbd h1 h2 h3 h4 hE hne
  go_enter Try.func16, Try.ntmps16
  go_wp2
  go_loopg [6] (tkE #[] es) (fun k u wr => TkAt w r c es k wr)
  case atStart => exact ⟨#[], rfl, blkN _ _ _ rfl, (Below.refl _ _).alloc (Nat.le_refl _) _⟩
  case round =>
    obtain ⟨seen, hk, hit, hbel⟩ := hrel
    have k1 : wr.heap[r]? = some (.map es c) := (hbel.block r hrl).trans (unhide HZ).2.1
    have HR := hide (And.intro hk (And.intro hit (And.intro hbel k1)))
    clear hk hit hbel k1
    go_wp2_with (at_next; refine wpList_next_raw _ rfl _ rfl w.heap.size r c c seen es c rfl (unhide HR).2.1 (unhide HR).2.2.2 (unhide HZ).2.2.2.1 (Nat.le_refl _) ?_ ?_)
    · intro h0
      go_wp2
      go_ret
      exact ⟨rfl, (unhide HR).2.2.1⟩
    · intro e w1 hal
      obtain ⟨hk, hit, hbel, k1⟩ := unhide HR
      obtain ⟨hC, h1, h2, h3, h4, hE⟩ := unhide HZ
      obtain ⟨he, hw1⟩ := unhide hal
      obtain ⟨heM, hnot⟩ := mem_left (Array.mem_toList_iff.2 he)
      have hw1h : w1.heap = wr.heap := by rcases hw1 with rfl | rfl <;> rfl
      have hF1 : Fr (fun k => k = w.heap.size) wr (setBlock w1 w.heap.size (.mapIter (some r) c (seen.push e.born) c)) := by
        rcases hw1 with rfl | rfl
        · exact (Fr.refl _ _).setBlock _ (fun _ => rfl)
        · exact (Fr.refl _ _).drew.setBlock _ (fun _ => rfl)
      have hit2 : (setBlock w1 w.heap.size (.mapIter (some r) c (seen.push e.born) c)).heap[w.heap.size]? = some (.mapIter (some r) c (seen.push e.born) c) := setBlock_same (w := w1) (o := .mapIter (some r) c seen c) (by rw [hw1h]; exact hit)
      have hb2 : Below w.heap.size w (setBlock w1 w.heap.size (.mapIter (some r) c (seen.push e.born) c)) := hbel.trans ⟨hF1.os, hF1.tape, hF1.output, hF1.size, fun k hk => hF1.block k (Nat.lt_of_lt_of_le hk hbel.size) (by omega)⟩
      generalize setBlock w1 w.heap.size (.mapIter (some r) c (seen.push e.born) c) = w2 at *
      have k1' : w2.heap[r]? = some (.map es c) := (hb2.block r hrl).trans h1
      have hen := run_entry_at (P := Try.prog) w2 w.heap.size r c seen es c e hit2 k1' heM h4
      obtain ⟨x, hx, hkey, hval⟩ := (keysB h2).1 e heM
      have hcall := age_empty ((hC.new hb2).ten x hx).1 (hE x hx) n
      have hlm := tkE_push heM hnot
      unfold ptrV at hval
      rw [hkey, hval] at hen
      rw [hkey, hval]
      have HC := hide hcall
      have hs2 : w.heap.size < w2.heap.size := (Array.getElem?_eq_some_iff.1 hit2).1
      have HX := hide (And.intro hit2 (And.intro hb2 (And.intro hlm hk)))
      clear hcall hit2 hb2 hlm hk hit hbel k1 k1' HR hal he hw1 heM hnot hw1h hF1 h1 h2 h3 h4 hE hkey hval hC hx
      go_wp2_with (go_at_call 27; refine (unhide HC).mono ?_; rintro en w4 ⟨rfl, hd4⟩; have HD4 := hide hd4; clear hd4)
      go_roundg (tkE (seen.push e.born) es)
      case measure =>
        obtain ⟨hit2, hb2, hlm, hk⟩ := unhide HX
        rw [hk]
        exact hlm
      case rel =>
        obtain ⟨hit2, hb2, hlm, hk⟩ := unhide HX
        exact ⟨seen.push e.born, rfl, ((unhide HD4).block _ hs2).trans hit2, hb2.trans ((unhide HD4).mono (Nat.le_of_lt hs2))⟩

def inB (n low high : Int) : Bool := decide (low ≤ n ∧ n ≤ high)

set_option maxHeartbeats 400000 in
theorem within_any (n low high : Int) (w : World) :
    Calls Try.prog 91 #[.int .i64 n, .int .i64 low, .int .i64 high] w fun e w' => e = .returned (.bool (inB n low high)) ∧ w' = w := by
  by_cases h1 : low ≤ n
  · by_cases h2 : n ≤ high
    · have h : inB n low high = true := by simp [inB, h1, h2]
      rw [h]
      clear h
      go_enter Try.func91, Try.ntmps91
      go_wp2
      go_ret
      exact ⟨rfl, rfl⟩
    · have h : inB n low high = false := by simp [inB, h2]
      rw [h]
      clear h
      go_enter Try.func91, Try.ntmps91
      go_wp2
      go_ret
      exact ⟨rfl, rfl⟩
  · have h : inB n low high = false := by simp [inB, h1]
    rw [h]
    clear h
    go_enter Try.func91, Try.ntmps91
    go_wp2
    go_ret
    exact ⟨rfl, rfl⟩

def tickB (t : Int) : Int := if t < 0 ∨ 100000 < t then 6 else 0
def hasTag (ts : List Ten) (tag : Int) : Bool := ts.any fun t => t.tag == tag
def tabErr (ts : List Ten) (tag : Int) : Int := if hasTag ts tag then 0 else 5

/-- the program's box: its tenants, no mappings; its blocks are of S -/
def ProgBox (w : World) (S : Nat → Prop) (p : Nat) (ts : List Ten) : Prop := ∃ F, BoxR w F p (newB ts) ∧ ∀ k, F k → S k

theorem ProgBox.keep {w w' : World} {S S' : Nat → Prop} {p : Nat} {ts : List Ten} (h : ProgBox w S p ts) (hsz : w.heap.size ≤ w'.heap.size) (hS : ∀ k, S k → k < w.heap.size → S' k) (hk : ∀ k, S k → k < w.heap.size → w'.heap[k]? = w.heap[k]?) : ProgBox w' S' p ts := by
  obtain ⟨F, hB, hF⟩ := h
  have hlt : ∀ k, F k → k < w.heap.size := by
    obtain ⟨_, _, _, _, _, h4⟩ := hB
    exact h4
  refine ⟨F, ?_, fun k hk' => hS k (hF k hk') (hlt k hk')⟩
  have hfr : Fr (fun k => ¬ F k) w { w' with os := w.os, tape := w.tape, output := w.output } := ⟨rfl, rfl, rfl, hsz, fun k hl hn => hk k (hF k (Classical.byContradiction hn)) hl⟩
  have h2 := hB.keep hfr (fun k hk' hn => hn hk')
  obtain ⟨r, C, a1, a2, a3, a4⟩ := h2
  exact ⟨r, C, ⟨a1.blk, a1.map, fun x hx => ⟨⟨(a1.ten x hx).1.sg, (a1.ten x hx).1.shp, (a1.ten x hx).1.shi, (a1.ten x hx).1.ne, (a1.ten x hx).1.bound, (a1.ten x hx).1.blk, (a1.ten x hx).1.mp, (a1.ten x hx).1.mi, (a1.ten x hx).1.maps, (a1.ten x hx).1.mem, (a1.ten x hx).1.apart, (a1.ten x hx).1.good⟩, (a1.ten x hx).2⟩, a1.apart⟩, a2, a3, a4⟩

def NewEnd (w : World) (ts : List Ten) (e : Ending) (w' : World) : Prop :=
  Below w.heap.size w w' ∧ ((newErr ts ≠ 0 ∧ e = .returned (.tuple #[.pointer none, .int .i64 (newErr ts)])) ∨
    (newErr ts = 0 ∧ ∃ p, e = .returned (.tuple #[.pointer (some ⟨p, 0, none⟩), .int .i64 0]) ∧ ProgBox w' (fun k => w.heap.size ≤ k) p ts))

theorem new_some (b off n cap : Nat) (ts : List Ten) (w : World) (hn : n = ts.length) (hc : n ≤ cap) (hm : cap ≤ maxLen) (hb : b < w.heap.size) (hT : TenAt w b off ts) :
    Calls Try.prog 26 #[.slice (some ⟨b, off, none⟩) n cap] w fun e w' => NewEnd w ts e w' := by
  refine (Ytgpplekabohneaa.new_some b off n cap ts w hn hc hm hb hT).mono ?_
  rintro e w' ⟨h1, h2 | ⟨h2, p, h3, h4⟩⟩
  · exact ⟨h1, .inl h2⟩
  · exact ⟨h1, .inr ⟨h2, p, h3, _, h4, fun k hk => hk.1⟩⟩

theorem hasTag_iff {ts : List Ten} {tag : Int} : hasTag ts tag = true ↔ ∃ t ∈ ts, t.tag = tag := by
  unfold hasTag
  rw [List.any_eq_true]
  simp

theorem table_none {w : World} {b r : Nat} {C : List BC} (h : BoxC w b r C) (tag : Int) (hn : ∀ x ∈ C, x.tag ≠ tag) :
    Calls Try.prog 19 #[.pointer (some ⟨b, 0, none⟩), .int .i64 tag] w fun e w' => e = .returned (.tuple #[.slice none 0 0, .int .i64 5]) ∧ w' = w := by
  have hlook := h.look_none tag hn
  obtain ⟨l1, c0⟩ := h.cell
  clear h hn
  go_enter Try.func19, Try.ntmps19
  go_wp2
  go_ret2
  exact ⟨rfl, rfl⟩

theorem tableF_empty {T : Tn} (h : T.maps = []) : tableF T = [] := by
  have : ∀ (p : Int) (n : Nat) (q : Int), rowF [] p n q = [] := fun p n => by
    induction n with
    | zero => exact fun _ => rfl
    | succ n ih => exact fun q => by rw [rowF, ih]; rfl
  unfold tableF
  rw [h, this, this, this]
  rfl

theorem table_any (p : Nat) (S : Nat → Prop) (ts : List Ten) (tag : Int) (w : World) (hB : ProgBox w S p ts) :
    Calls Try.prog 19 #[.pointer (some ⟨p, 0, none⟩), .int .i64 tag] w fun e w' =>
      (hasTag ts tag = true ∧ ∃ ap cap, e = .returned (.tuple #[.slice ap 0 cap, .int .i64 0]) ∧ w'.ownsRow w.heap.size 52 7 (.slice ap 0 cap) 0 [] ∧ Below w.heap.size w w') ∨ (hasTag ts tag = false ∧ e = .returned (.tuple #[.slice none 0 0, .int .i64 5]) ∧ w' = w) := by
  obtain ⟨F, ⟨r, C, hC, hM, -, -⟩, -⟩ := hB
  cases hh : hasTag ts tag
  · refine (table_none hC tag (fun x hx e => ?_)).mono (fun e w' h => .inr ⟨rfl, h⟩)
    have : (x.tag, x.T) ∈ newB ts := by rw [← hM]; exact List.mem_map.2 ⟨x, hx, rfl⟩
    obtain ⟨t, ht, e2⟩ := List.mem_map.1 this
    rw [hasTag_iff.2 ⟨t, ht, (Prod.mk.inj e2).1.trans e⟩] at hh
    cases hh
  · obtain ⟨t, ht, e⟩ := hasTag_iff.1 hh
    have : (t.tag, (⟨t.outer, t.low, t.high, []⟩ : Tn)) ∈ C.map (fun x => (x.tag, x.T)) := by rw [hM]; exact List.mem_map.2 ⟨t, ht, rfl⟩
    obtain ⟨x, hx, e2⟩ := List.mem_map.1 this
    have e3 : x.tag = tag := (Prod.mk.inj e2).1.trans e
    have e4 : tableF x.T = [] := tableF_empty (by rw [(Prod.mk.inj e2).2])
    have hc := Table_some hC hx
    rw [e3, e4] at hc
    refine hc.mono ?_
    rintro en w' ⟨lv, rfl, ⟨R, hR, hL, -⟩, hb⟩
    have hR' : R = [] := List.map_eq_nil_iff.1 hR
    subst hR'
    have hL' : w'.ownsRow w.heap.size 52 7 lv 0 [] := hL
    rcases hL'.2 with ⟨rfl, _⟩ | ⟨g, cap, cur, rfl, _⟩
    · exact .inl ⟨rfl, none, 0, rfl, hL', hb⟩
    · exact .inl ⟨rfl, _, cap, rfl, hL', hb⟩

theorem tick_any (p : Nat) (S : Nat → Prop) (ts : List Ten) (t : Int) (w : World) (hB : ProgBox w S p ts) :
    Calls Try.prog 16 #[.pointer (some ⟨p, 0, none⟩), .int .i64 t] w fun e w' => e = .returned (.int .i64 (tickB t)) ∧ Below w.heap.size w w' := by
  by_cases h1 : t < 0
  · have h : tickB t = 6 := by simp [tickB, h1]
    rw [h]; clear h
    go_enter Try.func16, Try.ntmps16
    go_wp2
    go_ret
    exact ⟨rfl, Below.refl _ _⟩
  · by_cases h2 : 100000 < t
    · have h : tickB t = 6 := by simp [tickB, h2]
      rw [h]; clear h
      go_enter Try.func16, Try.ntmps16
      go_wp2
      go_ret
      exact ⟨rfl, Below.refl _ _⟩
    · have h : tickB t = 0 := by simp [tickB, h1, h2]
      rw [h]
      obtain ⟨F, hB, _⟩ := hB
      exact Tick_empty hB t (by omega) (by omega)

theorem okT_spans {a b c d : Int} (h : okT ⟨a, b, c, d⟩ = true) : 0 ≤ c ∧ d ≤ 65535 := by
  unfold okT at h
  have := of_decide_eq_true h
  simp only at this
  omega

end Go.Proofs.Ytgpplekabohneaa.B0
