/- A box. -/
import Derived.Test.YtgpplekabohneaaQs
import Derived.Maps.OwnSet
import Derived.Test.YtgpplekabohneaaQr
namespace Go.Proofs.Ytgpplekabohneaa
section
open Go.RowKit
open Go.ChangeMaps (setBlock)

theorem int_inj {a b : Int} (h : Value.int .i64 a = Value.int .i64 b) : a = b := by
  cases h
  rfl

theorem run_update_new (w : World) (r : Nat) (es : Array MapEntry) (clock : Nat) (k : Int) (v : Value) (hr : w.heap[r]? = some (.map es clock)) (hk : ∀ e ∈ es.toList, ∃ b, e.key = .int .i64 b ∧ b ≠ k) :
    (Instr.mapUpdate 80 (.map (some r)) (.int .i64 k) v).run Try.prog w = .ok () (setBlock w r (.map (es.push { key := .int .i64 k, val := v, born := clock }) (clock + 1))) := by
  have hd : MapKept.IsKey (.int .i64) (.int .i64 k) := rfl
  rcases MapKept.findNow_spec hd es.toList 0 (fun x hx => by obtain ⟨b, hb, _⟩ := hk x hx; rw [hb]; rfl) with ⟨h1, _⟩ | ⟨j, e, h1, h2, h3⟩
  · simp [Instr.mapUpdate, run_underlying Try.underlying80, MapKept.run_getObj_map hr, MapKept.run_checkKey Try.underlying3 hd, MapKept.run_findKey Try.underlying3 h1, MapKept.run_setObj_map _ hr, Result.andThen, setBlock]
  · obtain ⟨b, hb, hne⟩ := hk e (List.mem_of_getElem? h2)
    exact absurd (int_inj (hb.symm.trans h3)) hne

/-- 'm[k]' with 'ok', on a map keyed by int: nothing there -/
theorem run_look_none (w : World) (r : Nat) (es : Array MapEntry) (clock : Nat) (k : Int) (hr : w.heap[r]? = some (.map es clock)) (hk : ∀ e ∈ es.toList, ∃ b, e.key = .int .i64 b ∧ b ≠ k) :
    (Instr.lookup 80 (.map (some r)) (.int .i64 k) true).run Try.prog w = .ok (.tuple #[.pointer none, .bool false]) w := by
  have hd : MapKept.IsKey (.int .i64) (.int .i64 k) := rfl
  have hz : (zeroValue 83).run Try.prog w = .ok (.pointer none) w := by kernel_rfl
  rcases MapKept.findNow_spec hd es.toList 0 (fun x hx => by obtain ⟨b, hb, _⟩ := hk x hx; rw [hb]; rfl) with ⟨h1, _⟩ | ⟨j, e, h1, h2, h3⟩
  · simp [Instr.lookup, run_underlying Try.underlying80, MapKept.run_getObj_map hr, MapKept.run_checkKey Try.underlying3 hd, MapKept.run_findKey Try.underlying3 h1, hz, Result.andThen]
  · obtain ⟨b, hb, hne⟩ := hk e (List.mem_of_getElem? h2)
    exact absurd (int_inj (hb.symm.trans h3)) hne

/-- .. the entry that is there -/
theorem run_look_some (w : World) (r : Nat) (es : Array MapEntry) (clock : Nat) (k : Int) (hr : w.heap[r]? = some (.map es clock)) (hk : ∀ e ∈ es.toList, ∃ b, e.key = .int .i64 b) (hin : ∃ e ∈ es.toList, e.key = .int .i64 k) :
    ∃ e ∈ es.toList, e.key = .int .i64 k ∧ (Instr.lookup 80 (.map (some r)) (.int .i64 k) true).run Try.prog w = .ok (.tuple #[e.val, .bool true]) w := by
  have hd : MapKept.IsKey (.int .i64) (.int .i64 k) := rfl
  rcases MapKept.findNow_spec hd es.toList 0 (fun x hx => by obtain ⟨b, hb⟩ := hk x hx; rw [hb]; rfl) with ⟨h1, h2⟩ | ⟨j, e, h1, h2, h3⟩
  · obtain ⟨e, he, hek⟩ := hin
    exact absurd hek (h2 e he)
  · refine ⟨e, List.mem_of_getElem? h2, h3, ?_⟩
    simp [Instr.lookup, run_underlying Try.underlying80, MapKept.run_getObj_map hr, MapKept.run_checkKey Try.underlying3 hd, MapKept.run_findKey Try.underlying3 h1, Result.andThen]

/-- a tenant of a box, and where it lies -/
structure BC where
  tag : Int
  T : Tn
  g : Nat
  hp : Nat
  hi : Nat
  S : Nat → Prop
  L : List Cl

structure BoxC (w : World) (b r : Nat) (C : List BC) : Prop where
  blk : w.heap[b]? = some (.cells #[.map (some r)] 82 (0, 0))
  map : ∃ es c, w.heap[r]? = some (.map es c) ∧ es.toList.map (fun e => (e.key, e.val)) = C.map (fun x => (Value.int .i64 x.tag, ptrV x.g)) ∧ (∀ e ∈ es.toList, e.born < c) ∧ (es.toList.map (·.born)).Nodup
  ten : ∀ x ∈ C, TenR w x.S x.g x.hp x.hi x.T x.L ∧ ¬ x.S b ∧ ¬ x.S r
  apart : C.Pairwise (fun x y => x.tag ≠ y.tag ∧ ∀ k, x.S k → ¬ y.S k)

def foot (b r : Nat) (C : List BC) (k : Nat) : Prop := k = b ∨ k = r ∨ ∃ x ∈ C, x.S k

/-- a box: its tenants, by tag; its blocks are of F -/
def BoxR (w : World) (F : Nat → Prop) (b : Nat) (B : List (Int × Tn)) : Prop :=
  ∃ r C, BoxC w b r C ∧ C.map (fun x => (x.tag, x.T)) = B ∧ (∀ k, foot b r C k → F k) ∧ ∀ k, F k → k < w.heap.size

def isT (tag : Int) (x : Int × Tn) : Bool := x.1 == tag

def putT (B : List (Int × Tn)) (tag : Int) (T : Tn) : List (Int × Tn) := B.map fun y => if isT tag y then (y.1, T) else y

/-- P4 -/
def passB (B : List (Int × Tn)) (p : Pk) : List (Int × Tn) × Pk × Int × Int :=
  if goodB p then
    match B.find? (isT p.tag) with
    | none => (B, pk0, 1, 0)
    | some x => (putT B p.tag (passF x.2 p).1, (passF x.2 p).2.1, (passF x.2 p).2.2, 0)
  else (B, pk0, 0, 4)

theorem BoxC.keep {w w' : World} {b r : Nat} {C : List BC} {X : Nat → Prop} (h : BoxC w b r C) (hF : Fr X w w') (hX : ∀ k, foot b r C k → ¬ X k) : BoxC w' b r C where
  blk := hF.some h.blk (hX _ (.inl rfl))
  map := by
    obtain ⟨es, c, h1, h2⟩ := h.map
    exact ⟨es, c, hF.some h1 (hX _ (.inr (.inl rfl))), h2⟩
  ten := fun x hx => ⟨(h.ten x hx).1.keep hF (fun k hk => hX k (.inr (.inr ⟨x, hx, hk⟩))), (h.ten x hx).2⟩
  apart := h.apart

theorem BoxR.keep {w w' : World} {b : Nat} {F X : Nat → Prop} {B : List (Int × Tn)} (h : BoxR w F b B) (hF : Fr X w w') (hX : ∀ k, F k → ¬ X k) : BoxR w' F b B := by
  obtain ⟨r, C, h1, h2, h3, h4⟩ := h
  exact ⟨r, C, h1.keep hF (fun k hk => hX k (h3 k hk)), h2, h3, fun k hk => Nat.lt_of_lt_of_le (h4 k hk) hF.size⟩

theorem BoxR.new {w w' : World} {b : Nat} {F : Nat → Prop} {B : List (Int × Tn)} (h : BoxR w F b B) (hb : Below w.heap.size w w') : BoxR w' F b B := h.keep (X := fun _ => False) (Fr.of_below hb) (fun _ _ f => f)

theorem BoxR.mono {w : World} {b : Nat} {F F' : Nat → Prop} {B : List (Int × Tn)} (h : BoxR w F b B) (h1 : ∀ k, F k → F' k) (h2 : ∀ k, F' k → k < w.heap.size) : BoxR w F' b B := by
  obtain ⟨r, C, a1, a2, a3, _⟩ := h
  exact ⟨r, C, a1, a2, fun k hk => h1 k (a3 k hk), h2⟩

/-- one tenant turns -/
theorem BoxC.upd {w w' : World} {b r : Nat} {C : List BC} (h : BoxC w b r C) {x : BC} (hx : x ∈ C) {T' : Tn} {L' : List Cl} (hT : TenR w' (grow x.S w w') x.g x.hp x.hi T' L') (hF : Fr x.S w w') (hbd : ∀ k, foot b r C k → k < w.heap.size) :
    BoxC w' b r (C.map fun y => if y.tag = x.tag then ⟨x.tag, T', x.g, x.hp, x.hi, grow x.S w w', L'⟩ else y) := by
  have uniq : ∀ y ∈ C, y.tag = x.tag → y = x := fun y hy e => pw_eq h.apart hy hx (fun q => q.1 e) (fun q => q.1 e.symm)
  obtain ⟨hxT, hxb, hxr⟩ := h.ten x hx
  refine ⟨hF.some h.blk hxb, ?_, ?_, ?_⟩
  · obtain ⟨es, c, h1, h2, h3⟩ := h.map
    refine ⟨es, c, hF.some h1 hxr, ?_, h3⟩
    rw [h2, List.map_map]
    refine List.map_congr_left (fun y hy => ?_)
    show _ = (fun x => (Value.int .i64 x.tag, ptrV x.g)) (if y.tag = x.tag then (⟨x.tag, T', x.g, x.hp, x.hi, grow x.S w w', L'⟩ : BC) else y)
    split
    · rename_i e
      rw [uniq y hy e]
    · rfl
  · intro z hz
    obtain ⟨y, hy, rfl⟩ := List.mem_map.1 hz
    by_cases e : y.tag = x.tag
    · rw [if_pos e]
      refine ⟨hT, ?_, ?_⟩
      · rintro (hk | hk)
        · exact hxb hk
        · have := hbd b (.inl rfl); omega
      · rintro (hk | hk)
        · exact hxr hk
        · have := hbd r (.inr (.inl rfl)); omega
    · rw [if_neg e]
      refine ⟨(h.ten y hy).1.keep hF (fun k hk hk' => ?_), (h.ten y hy).2⟩
      by_cases hr : (x.tag ≠ y.tag ∧ ∀ k, x.S k → ¬ y.S k)
      · exact hr.2 k hk' hk
      · by_cases hr' : (y.tag ≠ x.tag ∧ ∀ k, y.S k → ¬ x.S k)
        · exact hr'.2 k hk hk'
        · exact e (congrArg BC.tag (pw_eq h.apart hy hx hr' hr))
  · rw [List.pairwise_map]
    refine h.apart.imp_of_mem ?_
    intro a c ha hc hac
    by_cases ea : a.tag = x.tag
    · have e1 := uniq a ha ea
      subst e1
      have ec : ¬ c.tag = a.tag := fun e => hac.1 e.symm
      rw [if_pos rfl, if_neg ec]
      refine ⟨hac.1, fun k hk hk' => ?_⟩
      rcases hk with hk | hk
      · exact hac.2 k hk hk'
      · have := hbd k (.inr (.inr ⟨c, hc, hk'⟩)); omega
    · by_cases ec : c.tag = x.tag
      · have e1 := uniq c hc ec
        subst e1
        rw [if_neg ea, if_pos rfl]
        refine ⟨hac.1, fun k hk hk' => ?_⟩
        rcases hk' with hk' | hk'
        · exact hac.2 k hk hk'
        · have := hbd k (.inr (.inr ⟨a, ha, hk⟩)); omega
      · rw [if_neg ea, if_neg ec]
        exact hac
end

section
open Go.RowKit
open Go.ChangeMaps (setBlock)

theorem BoxC.cell {w : World} {b r : Nat} {C : List BC} (h : BoxC w b r C) : b < w.heap.size ∧ w.cell? ⟨b, 0, none⟩ = some (.map (some r)) := by
  have hb := h.blk
  exact ⟨(Array.getElem?_eq_some_iff.1 hb).1, by simp [World.cell?, hb]⟩

theorem BoxC.new {w w' : World} {b r : Nat} {C : List BC} (h : BoxC w b r C) (hb : Below w.heap.size w w') : BoxC w' b r C := h.keep (X := fun _ => False) (Fr.of_below hb) (fun _ _ f => f)

theorem keysB {es : Array MapEntry} {C : List BC} (h : es.toList.map (fun e => (e.key, e.val)) = C.map (fun x => (Value.int .i64 x.tag, ptrV x.g))) : (∀ e ∈ es.toList, ∃ x ∈ C, e.key = .int .i64 x.tag ∧ e.val = ptrV x.g) ∧ ∀ x ∈ C, ∃ e ∈ es.toList, e.key = .int .i64 x.tag ∧ e.val = ptrV x.g := by
  constructor
  · intro e he
    have : (e.key, e.val) ∈ es.toList.map (fun e => (e.key, e.val)) := List.mem_map.2 ⟨e, he, rfl⟩
    rw [h] at this
    obtain ⟨x, hx, e'⟩ := List.mem_map.1 this
    exact ⟨x, hx, (Prod.mk.inj e').1.symm, (Prod.mk.inj e').2.symm⟩
  · intro x hx
    have : (Value.int .i64 x.tag, ptrV x.g) ∈ C.map (fun x => (Value.int .i64 x.tag, ptrV x.g)) := List.mem_map.2 ⟨x, hx, rfl⟩
    rw [← h] at this
    obtain ⟨e, he, e'⟩ := List.mem_map.1 this
    exact ⟨e, he, (Prod.mk.inj e').1, (Prod.mk.inj e').2⟩

theorem BoxC.look_none {w : World} {b r : Nat} {C : List BC} (h : BoxC w b r C) (tag : Int) (hn : ∀ x ∈ C, x.tag ≠ tag) :
    (Instr.lookup 80 (.map (some r)) (.int .i64 tag) true).run Try.prog w = .ok (.tuple #[.pointer none, .bool false]) w := by
  obtain ⟨es, c, h1, h2, _⟩ := h.map
  refine run_look_none w r es c tag h1 (fun e he => ?_)
  obtain ⟨x, hx, hk, _⟩ := (keysB h2).1 e he
  exact ⟨x.tag, hk, hn x hx⟩

theorem BoxC.look_some {w : World} {b r : Nat} {C : List BC} (h : BoxC w b r C) {x : BC} (hx : x ∈ C) :
    (Instr.lookup 80 (.map (some r)) (.int .i64 x.tag) true).run Try.prog w = .ok (.tuple #[.pointer (some ⟨x.g, 0, none⟩), .bool true]) w := by
  obtain ⟨es, c, h1, h2, _⟩ := h.map
  obtain ⟨k1, k2⟩ := keysB h2
  obtain ⟨e0, he0, hk0, _⟩ := k2 x hx
  obtain ⟨e, he, hk, hr⟩ := run_look_some w r es c x.tag h1 (fun e he => by obtain ⟨y, _, hk, _⟩ := k1 e he; exact ⟨_, hk⟩) ⟨e0, he0, hk0⟩
  obtain ⟨y, hy, hky, hv⟩ := k1 e he
  have e1 : y.tag = x.tag := int_inj (hky.symm.trans hk)
  have e2 : y = x := pw_eq h.apart hy hx (fun q => q.1 e1) (fun q => q.1 e1.symm)
  rw [hv, e2] at hr
  exact hr

set_option maxHeartbeats 2000000 in
theorem Pass_bad (b : Nat) (p : Pk) (w : World) (hg : goodB p = false) :
    Calls Try.prog 18 #[.pointer (some ⟨b, 0, none⟩), .agg (pkC p)] w fun e w' => e = .returned (.tuple #[.agg (pkC pk0), .int .i64 0, .int .i64 4]) ∧ Below w.heap.size w w' := by
  have hC := fun W => hide (isPacket_any p W)
  rw [hg] at hC
  obtain ⟨tag, proto, out, sa, sp, da, dp, syn, fin, rst, err, qsa, qsp, qda, qdp⟩ := p
  unfold pkC at *
  dsimp only [pk0] at *
  clear hg
  go_enter Try.func18, Try.ntmps18
  go_wp2_with fail
  refine (unhide (hC _)).mono ?_
  rintro e w1 ⟨rfl, hb1⟩
  obtain ⟨hc, hf⟩ := bcell hb1
  have hz : w.heap.size + 2 ≤ w1.heap.size := by have := hb1.size; simpa using this
  have HB : Hid (Below w.heap.size w w1) := Below.trans (((Below.refl _ _).alloc (Nat.le_refl _) _).alloc (by simp) _) (hb1.mono (by simp; omega))
  clear hb1 hC
  go_wp2
  refine bodyPost_ret (v := .tuple #[pk0V, .int .i64 0, .int .i64 4]) (by simp [results, Try.results18, go_sem, pk0V, hc]) rfl ⟨rfl, ?_⟩
  repeat (refine Below.setCell ?_ (by simp) _)
  exact unhide HB

set_option maxHeartbeats 2000000 in
theorem Pass_none {w : World} {b r : Nat} {C : List BC} (h : BoxC w b r C) (p : Pk) (hg : goodB p = true) (hn : ∀ x ∈ C, x.tag ≠ p.tag) :
    Calls Try.prog 18 #[.pointer (some ⟨b, 0, none⟩), .agg (pkC p)] w fun e w' => e = .returned (.tuple #[.agg (pkC pk0), .int .i64 1, .int .i64 0]) ∧ Below w.heap.size w w' := by
  have hC := fun W => hide (isPacket_any p W)
  rw [hg] at hC
  have hL : ∀ W, Below w.heap.size w W → W.cell? ⟨b, 0, none⟩ = some (.map (some r)) ∧ (Instr.lookup 80 (.map (some r)) (.int .i64 p.tag) true).run Try.prog W.drew = .ok (.tuple #[.pointer none, .bool false]) W.drew := fun W hb => ⟨(h.new hb).cell.2, (h.new hb.drew).look_none p.tag hn⟩
  have l1 := h.cell.1
  obtain ⟨tag, proto, out, sa, sp, da, dp, syn, fin, rst, err, qsa, qsp, qda, qdp⟩ := p
  unfold pkC at *
  dsimp only [pk0] at *
  clear hg h hn
  go_enter Try.func18, Try.ntmps18
  go_wp2_with fail
  refine (unhide (hC _)).mono ?_
  rintro e w1 ⟨rfl, hb1⟩
  have hpk : w1.heap[w.heap.size]? = some (.cells (pkC ⟨tag, proto, out, sa, sp, da, dp, syn, fin, rst, err, qsa, qsp, qda, qdp⟩) 38 (0, 0)) := (hb1.block _ (by simp; omega)).trans (blkA (blkN _ _ _ rfl))
  have hrs : w1.heap[w.heap.size + 1]? = some (.cells (pkC pk0) 38 (0, 0)) := (hb1.block _ (by simp)).trans (blkN _ _ _ (by simp))
  have a0 := (pk_cells hpk).1
  obtain ⟨b0, b1, b2, b3, b4, b5, b6, b7, b8, b9, b10, b11, b12, b13, b14, bz⟩ := pk_cells hrs
  dsimp only [pk0] at a0 b0 b1 b2 b3 b4 b5 b6 b7 b8 b9 b10 b11 b12 b13 b14
  have hz : w.heap.size + 2 ≤ w1.heap.size := by have := hb1.size; simpa using this
  have HB : Hid (Below w.heap.size w w1) := Below.trans (((Below.refl _ _).alloc (Nat.le_refl _) _).alloc (by simp) _) (hb1.mono (by simp; omega))
  obtain ⟨k1, k2⟩ := hL _ (unhide HB)
  clear hpk hrs hb1 hC hL
  go_wp2
  go_region
  all_goals
    go_wp2
    refine bodyPost_ret (v := .tuple #[pk0V, .int .i64 1, .int .i64 0]) (by simp [results, Try.results18, go_sem, pk0V, b0, b1, b2, b3, b4, b5, b6, b7, b8, b9, b10, b11, b12, b13, b14]) rfl ⟨rfl, ?_⟩
    refine Below.drew ?_
    repeat (refine Below.setCell ?_ (by simp) _)
    exact unhide HB
end

end Go.Proofs.Ytgpplekabohneaa
