/- 'Batched': the batch's answers held against the packets' own. · 'Batched': the tables of both boxes. · The run's end beside leavers; its beginning. -/
import Derived.Test.YtgpplekabohneaaYay
import Derived.Deep.QuietTactic
import Derived.BigQuiet
import Derived.Test.YtgpplekabohneaaYak
import Derived.Deep.LoopGhost
namespace Go.Proofs.Ytgpplekabohneaa.Co
open Go Go.Conc Go.ConcN Go.RowKit

set_option maxRecDepth 100000 in
theorem arr149 (a : Go.Act) (hd : a.defers = []) (hs : a.tmps.size = 149) : ∃ f : Nat → Value, a = ⟨#[f 0, f 1, f 2, f 3, f 4, f 5, f 6, f 7, f 8, f 9, f 10, f 11, f 12, f 13, f 14, f 15, f 16, f 17, f 18, f 19, f 20, f 21, f 22, f 23, f 24, f 25, f 26, f 27, f 28, f 29, f 30, f 31, f 32, f 33, f 34, f 35, f 36, f 37, f 38, f 39, f 40, f 41, f 42, f 43, f 44, f 45, f 46, f 47, f 48, f 49, f 50, f 51, f 52, f 53, f 54, f 55, f 56, f 57, f 58, f 59, f 60, f 61, f 62, f 63, f 64, f 65, f 66, f 67, f 68, f 69, f 70, f 71, f 72, f 73, f 74, f 75, f 76, f 77, f 78, f 79, f 80, f 81, f 82, f 83, f 84, f 85, f 86, f 87, f 88, f 89, f 90, f 91, f 92, f 93, f 94, f 95, f 96, f 97, f 98, f 99, f 100, f 101, f 102, f 103, f 104, f 105, f 106, f 107, f 108, f 109, f 110, f 111, f 112, f 113, f 114, f 115, f 116, f 117, f 118, f 119, f 120, f 121, f 122, f 123, f 124, f 125, f 126, f 127, f 128, f 129, f 130, f 131, f 132, f 133, f 134, f 135, f 136, f 137, f 138, f 139, f 140, f 141, f 142, f 143, f 144, f 145, f 146, f 147, f 148], []⟩ ∧ ∀ i, f i = a.tmps.getD i undef := by
  refine ⟨fun i => a.tmps.getD i undef, ?_, fun _ => rfl⟩
  have e : ∀ f : Nat → Value, (#[f 0, f 1, f 2, f 3, f 4, f 5, f 6, f 7, f 8, f 9, f 10, f 11, f 12, f 13, f 14, f 15, f 16, f 17, f 18, f 19, f 20, f 21, f 22, f 23, f 24, f 25, f 26, f 27, f 28, f 29, f 30, f 31, f 32, f 33, f 34, f 35, f 36, f 37, f 38, f 39, f 40, f 41, f 42, f 43, f 44, f 45, f 46, f 47, f 48, f 49, f 50, f 51, f 52, f 53, f 54, f 55, f 56, f 57, f 58, f 59, f 60, f 61, f 62, f 63, f 64, f 65, f 66, f 67, f 68, f 69, f 70, f 71, f 72, f 73, f 74, f 75, f 76, f 77, f 78, f 79, f 80, f 81, f 82, f 83, f 84, f 85, f 86, f 87, f 88, f 89, f 90, f 91, f 92, f 93, f 94, f 95, f 96, f 97, f 98, f 99, f 100, f 101, f 102, f 103, f 104, f 105, f 106, f 107, f 108, f 109, f 110, f 111, f 112, f 113, f 114, f 115, f 116, f 117, f 118, f 119, f 120, f 121, f 122, f 123, f 124, f 125, f 126, f 127, f 128, f 129, f 130, f 131, f 132, f 133, f 134, f 135, f 136, f 137, f 138, f 139, f 140, f 141, f 142, f 143, f 144, f 145, f 146, f 147, f 148] : Array Value) = ((List.range 149).map f).toArray := fun f => rfl
  obtain ⟨t, d⟩ := a
  dsimp only at hd hs ⊢
  subst hd
  rw [e fun i => t.getD i undef]
  congr 1
  apply Array.ext
  · simp [hs]
  · intro i h1 h2
    simp [Array.getD_eq_getD_getElem?, h1]

theorem pkEq_refl (p : Pk) : pkEq p p = true := by
  unfold pkEq
  simp

/-- The row of answers. -/
def ResRow (w : World) (rs ro _n : Nat) (B : List (Int × Tn)) (ps : List Pk) : Prop := ∀ j (h : j < ps.length), ∀ q v, (passB (boxOf B (ps.take j)) ps[j]).2.1 = q → (passB (boxOf B (ps.take j)) ps[j]).2.2.1 = v → ∀ jj x, (reC q v)[jj]? = some x → w.cell? ⟨rs, ro + j * 16 + jj, none⟩ = some x

/-- What holds while the answers are compared. -/
structure Cmp (u0 wr : World) (F1 F2 : Nat → Prop) (b1 b2 : Nat) (B1 B2 : List (Int × Tn)) (a : Option Addr) (cap rs ro : Nat) (B : List (Int × Tn)) (ps : List Pk) : Prop where
  two : Two u0 wr F1 F2 b1 b2 B1 B2
  lst : ListAt wr a cap ps
  out : ∀ pb, a = some ⟨pb, 0, none⟩ → ¬ F1 pb ∧ ¬ F2 pb
  row : ResRow wr rs ro ps.length B ps
  rin : rs < wr.heap.size ∧ ¬ F1 rs ∧ ¬ F2 rs

theorem Cmp.new {u0 wr w' : World} {F1 F2 : Nat → Prop} {b1 b2 : Nat} {B1 B2 : List (Int × Tn)} {a : Option Addr} {cap rs ro : Nat} {B : List (Int × Tn)} {ps : List Pk} (h : Cmp u0 wr F1 F2 b1 b2 B1 B2 a cap rs ro B ps) (hb : Below wr.heap.size wr w') : Cmp u0 w' F1 F2 b1 b2 B1 B2 a cap rs ro B ps :=
  ⟨h.two.new hb, h.lst.below (fun k hk => hb.block k hk), h.out, fun j hj q v hq hv jj x hx => (hb.cell (p := ⟨rs, _, none⟩) h.rin.1).trans (h.row j hj q v hq hv jj x hx), Nat.lt_of_lt_of_le h.rin.1 hb.size, h.rin.2⟩

theorem Cmp.pass {u0 wr w' : World} {F1 F2 : Nat → Prop} {b1 b2 : Nat} {B1 B2 B2' : List (Int × Tn)} {a : Option Addr} {cap rs ro : Nat} {B : List (Int × Tn)} {ps : List Pk} (h : Cmp u0 wr F1 F2 b1 b2 B1 B2 a cap rs ro B ps) (h2 : St u0 w' (grow F2 wr w') b2 B2') (hF : Fr F2 wr w') : Cmp u0 w' F1 (grow F2 wr w') b1 b2 B1 B2' a cap rs ro B ps := by
  have blk : ∀ k, k < wr.heap.size → ¬ F2 k → w'.heap[k]? = wr.heap[k]? := hF.block
  refine ⟨h.two.right h2 hF, ⟨h.lst.le, h.lst.max, ?_⟩, fun pb hpb => ?_, fun j hj q v hq hv jj x hx => ?_, Nat.lt_of_lt_of_le h.rin.1 hF.size, h.rin.2.1, ?_⟩
  · rcases h.lst.row with h' | ⟨pb, cur, e0, e1, e2⟩
    · exact .inl h'
    · exact .inr ⟨pb, cur, e0, (blk pb (Array.getElem?_eq_some_iff.1 e1).1 (h.out pb e0).2).trans e1, e2⟩
  · refine ⟨(h.out pb hpb).1, ?_⟩
    rintro (h' | h')
    · exact (h.out pb hpb).2 h'
    · rcases h.lst.row with ⟨e, _⟩ | ⟨pb', cur, e0, e1, _⟩
      · rw [e] at hpb; cases hpb
      · rw [e0] at hpb
        have : pb' = pb := by simpa using hpb
        subst this
        have := (Array.getElem?_eq_some_iff.1 e1).1
        omega
  · have := h.row j hj q v hq hv jj x hx
    rw [← this]
    simp only [World.cell?, blk rs h.rin.1 h.rin.2.2]
  · rintro (h' | h')
    · exact h.rin.2.2 h'
    · have := h.rin.1; omega

theorem cmp_tp {u0 wr : World} {F1 F2 : Nat → Prop} {b1 b2 : Nat} {B1 B2 : List (Int × Tn)} {a : Option Addr} {cap rs ro : Nat} {B : List (Int × Tn)} {ps : List Pk} (h : Cmp u0 wr F1 F2 b1 b2 B1 B2 a cap rs ro B ps) (T : Nat → Question → Nat) (d d' : Nat) : Cmp (tp u0 T d) (tp wr T d') F1 F2 b1 b2 B1 B2 a cap rs ro B ps :=
  ⟨two_tp h.two T d d', ⟨h.lst.le, h.lst.max, h.lst.row⟩, h.out, h.row, h.rin⟩

set_option maxHeartbeats 16000000 in
set_option maxRecDepth 100000 in
theorem compare {Q : Exit → Go.Act → World → Prop} (f : Nat → Value) {u0 u : World} {F1 F2 : Nat → Prop} {b1 b2 : Nat} {B1 : List (Int × Tn)} {a : Option Addr} {cap rs ro n : Nat} {B : List (Int × Tn)} {ps : List Pk} (hC : Cmp u0 u F1 F2 b1 b2 B1 B a cap rs ro B ps) (hfit : Fit B ps) (hn : n = ps.length) (hl : n ≤ 200)
    (hQ : Hid (∀ (a' : Go.Act) (W : World), a'.defers = [] → a'.tmps.size = 149 → a'.tmps.getD 5 undef = .pointer (some ⟨b1, 0, none⟩) → a'.tmps.getD 6 undef = .pointer (some ⟨b2, 0, none⟩) → (∃ F2, Cmp u0 W F1 F2 b1 b2 B1 (boxOf B ps) a cap rs ro B ps) → Q .normal a' W)) :
    (h12 9).wp Try.prog Q ⟨#[f 0, f 1, f 2, f 3, f 4, (.pointer (some ⟨b1, 0, none⟩)), (.pointer (some ⟨b2, 0, none⟩)), (.slice a n cap), f 8, (.slice (some ⟨rs, ro, none⟩) n n), (.int .i64 0), f 11, f 12, f 13, f 14, f 15, f 16, f 17, f 18, f 19, f 20, f 21, f 22, f 23, f 24, f 25, f 26, f 27, f 28, f 29, f 30, f 31, f 32, f 33, f 34, f 35, f 36, f 37, f 38, f 39, f 40, f 41, f 42, f 43, f 44, f 45, f 46, f 47, f 48, f 49, f 50, f 51, f 52, f 53, f 54, f 55, f 56, f 57, f 58, f 59, f 60, f 61, f 62, f 63, f 64, f 65, f 66, f 67, f 68, f 69, f 70, f 71, f 72, f 73, f 74, f 75, f 76, f 77, f 78, f 79, f 80, f 81, f 82, f 83, f 84, f 85, f 86, f 87, f 88, f 89, f 90, f 91, f 92, f 93, f 94, f 95, f 96, f 97, f 98, f 99, f 100, f 101, f 102, f 103, f 104, f 105, f 106, f 107, f 108, f 109, f 110, f 111, f 112, f 113, f 114, f 115, f 116, f 117, f 118, f 119, f 120, f 121, f 122, f 123, f 124, f 125, f 126, f 127, f 128, f 129, f 130, f 131, f 132, f 133, f 134, f 135, f 136, f 137, f 138, f 139, f 140, f 141, f 142, f 143, f 144, f 145, f 146, f 147, f 148], []⟩ u := by
  have hcap : n ≤ cap := by rw [hn]; exact hC.lst.le
  have hmax : cap ≤ 2 ^ 63 - 1 := by have := hC.lst.max; unfold maxLen at this; exact this
  have HC := hide hC
  have HF := hide hfit
  have HN := hide hn
  clear hC hfit hn
  simp only [h12, fstC, c12, restC, sndC, Try.f12, Option.getD_some]
  go_wp2_with fail
  go_loopg [11] n (fun k i wr => ∃ j : Nat, j ≤ n ∧ k = n - j ∧ i = .int .i64 j ∧ ∃ F2, Cmp u0 wr F1 F2 b1 b2 B1 (boxOf B (ps.take j)) a cap rs ro B ps)
  case atStart => exact ⟨0, Nat.zero_le _, by omega, rfl, _, unhide HC⟩
  case round =>
    obtain ⟨j, hj, hk, rfl, F2, hCm⟩ := hrel
    have HK := hide hk
    have HCm := hide hCm
    clear hk hCm HC
    by_cases hlt : j < n
    · have hjl : j < ps.length := by have := unhide HN; omega
      obtain ⟨g, off, rfl, hgl, hA⟩ := (unhide HCm).lst.pkAt (by omega)
      have hcell := hA j hjl
      obtain ⟨q, v, hpass, -⟩ := pass_at (unhide HF) hjl
      have HRow : Hid (∀ (w : World) (F2 : Nat → Prop) (B2 : List (Int × Tn)), Cmp u0 w F1 F2 b1 b2 B1 B2 (some ⟨g, off, none⟩) cap rs ro B ps → ∀ jj x, (reC q v)[jj]? = some x → w.cell? ⟨rs, ro + j * 16 + jj, none⟩ = some x) := fun w F2 B2 h => h.row j hjl q v (by rw [hpass]) (by rw [hpass])
      have HT : Hid (passB (boxOf B (ps.take j)) ps[j] = (boxOf B (ps.take (j + 1)), q, v, 0)) := hpass
      clear hpass hA
      generalize ps[j] = p at *
      obtain ⟨tg, proto, out, sa, sp, da, dp, syn, fin, rst, err, qsa, qsp, qda, qdp⟩ := p
      obtain ⟨qtag, qproto, qout, qa, qp, qd, qe, qsyn, qfin, qrst, qerr, q1, q2, q3, q4⟩ := q
      have c0 := hcell 0 (.int .i64 tg) rfl
      have c1 := hcell 1 (.int .i64 proto) rfl
      have c2 := hcell 2 (.bool out) rfl
      have c3 := hcell 3 (.int .i64 sa) rfl
      have c4 := hcell 4 (.int .i64 sp) rfl
      have c5 := hcell 5 (.int .i64 da) rfl
      have c6 := hcell 6 (.int .i64 dp) rfl
      have c7 := hcell 7 (.bool syn) rfl
      have c8 := hcell 8 (.bool fin) rfl
      have c9 := hcell 9 (.bool rst) rfl
      have c10 := hcell 10 (.bool err) rfl
      have c11 := hcell 11 (.int .i64 qsa) rfl
      have c12 := hcell 12 (.int .i64 qsp) rfl
      have c13 := hcell 13 (.int .i64 qda) rfl
      have c14 := hcell 14 (.int .i64 qdp) rfl
      rw [Nat.add_zero] at c0
      clear hcell
      go_wp2_with fail
      refine (passS (p := ⟨tg, proto, out, sa, sp, da, dp, syn, fin, rst, err, qsa, qsp, qda, qdp⟩) (unhide HCm).two.st2 (unhide HT)).mono ?_
      rintro e w4 ⟨rfl, hS4, hF4⟩
      have hC4 := (unhide HCm).pass hS4 hF4
      have hres := unhide HRow _ _ _ hC4
      have r0 := hres 0 (.int .i64 qtag) rfl
      have r1 := hres 1 (.int .i64 qproto) rfl
      have r2 := hres 2 (.bool qout) rfl
      have r3 := hres 3 (.int .i64 qa) rfl
      have r4 := hres 4 (.int .i64 qp) rfl
      have r5 := hres 5 (.int .i64 qd) rfl
      have r6 := hres 6 (.int .i64 qe) rfl
      have r7 := hres 7 (.bool qsyn) rfl
      have r8 := hres 8 (.bool qfin) rfl
      have r9 := hres 9 (.bool qrst) rfl
      have r10 := hres 10 (.bool qerr) rfl
      have r11 := hres 11 (.int .i64 q1) rfl
      have r12 := hres 12 (.int .i64 q2) rfl
      have r13 := hres 13 (.int .i64 q3) rfl
      have r14 := hres 14 (.int .i64 q4) rfl
      have r15 := hres 15 (.int .i64 v) rfl
      rw [Nat.add_zero] at r0
      have hrl : rs < w4.heap.size := hC4.rin.1
      have HC5 : Hid (∃ F2, Cmp u0 (w4.alloc (.cells (pkC ⟨qtag, qproto, qout, qa, qp, qd, qe, qsyn, qfin, qrst, qerr, q1, q2, q3, q4⟩) 38)) F1 F2 b1 b2 B1 (boxOf B (ps.take (j + 1))) (some ⟨g, off, none⟩) cap rs ro B ps) := ⟨_, hC4.new (belowA _ _)⟩
      have e38 : ∀ w, (Op.equalIn (9996 + 4) 38 (.agg (pkC ⟨qtag, qproto, qout, qa, qp, qd, qe, qsyn, qfin, qrst, qerr, q1, q2, q3, q4⟩)) (.agg (pkC ⟨qtag, qproto, qout, qa, qp, qd, qe, qsyn, qfin, qrst, qerr, q1, q2, q3, q4⟩))).run Try.prog w = .ok true w := fun w => by
        have := eq38 9996 ⟨qtag, qproto, qout, qa, qp, qd, qe, qsyn, qfin, qrst, qerr, q1, q2, q3, q4⟩ ⟨qtag, qproto, qout, qa, qp, qd, qe, qsyn, qfin, qrst, qerr, q1, q2, q3, q4⟩ w
        rw [pkEq_refl] at this
        exact this
      clear hS4 hF4 hC4 hres HRow HCm HT c0 c1 c2 c3 c4 c5 c6 c7 c8 c9 c10 c11 c12 c13 c14
      dsimp only [pkC] at e38 ⊢
      go_wp2_with fail
      go_quiet (fail)
      go_wp2_with fail
      go_roundg (n - (j + 1))
      case measure => have := unhide HK; omega
      case rel =>
        obtain ⟨F3, h⟩ := unhide HC5
        exact ⟨j + 1, by omega, rfl, by go_num, F3, h.new (below_drewN (Below.refl _ _) _)⟩
    · have hjn : j = n := by omega
      have HX : Hid (∃ F2, Cmp u0 wr F1 F2 b1 b2 B1 (boxOf B ps) a cap rs ro B ps) := by
        have h := unhide HCm
        rw [hjn, unhide HN, List.take_length] at h
        exact ⟨_, h⟩
      clear HCm HF HN HK
      subst hjn
      go_wp2_with fail
      exact unhide hQ _ _ rfl rfl rfl rfl (unhide HX)

end Go.Proofs.Ytgpplekabohneaa.Co

namespace Go.Proofs.Ytgpplekabohneaa.Co
open Go Go.Conc Go.ConcN Go.RowKit

set_option maxHeartbeats 16000000 in
set_option maxRecDepth 100000 in
theorem tables {Q : Exit → Go.Act → World → Prop} (f : Nat → Value) {u0 u : World} {F1 F2 : Nat → Prop} {b1 b2 : Nat} {B : List (Int × Tn)} (hC : Two u0 u F1 F2 b1 b2 B B) (hfit : ∀ t : Int, 1 ≤ t → t ≤ 3 → ∃ T, B.find? (isT t) = some (t, T))
    (hQ : Hid (∀ (a' : Go.Act) (W : World), a'.defers = [] → a'.tmps.size = 149 → a'.tmps.getD 15 undef = .slice none 0 0 → a'.tmps.getD 16 undef = .int .i64 4 → Below u0.heap.size u0 W → Q .normal a' W)) :
    (h12 11).wp Try.prog Q ⟨#[f 0, f 1, f 2, f 3, f 4, (.pointer (some ⟨b1, 0, none⟩)), (.pointer (some ⟨b2, 0, none⟩)), f 7, f 8, f 9, f 10, f 11, f 12, f 13, f 14, (.slice none 0 0), (.int .i64 4), f 17, f 18, f 19, f 20, f 21, f 22, f 23, f 24, f 25, f 26, f 27, f 28, f 29, f 30, f 31, f 32, f 33, f 34, f 35, f 36, f 37, f 38, f 39, f 40, f 41, f 42, f 43, f 44, f 45, f 46, f 47, f 48, f 49, f 50, f 51, f 52, f 53, f 54, f 55, f 56, f 57, f 58, f 59, f 60, f 61, f 62, f 63, f 64, f 65, f 66, f 67, f 68, f 69, f 70, f 71, f 72, f 73, f 74, f 75, f 76, f 77, f 78, f 79, f 80, f 81, f 82, f 83, f 84, f 85, f 86, f 87, f 88, f 89, f 90, f 91, f 92, f 93, f 94, f 95, f 96, f 97, f 98, f 99, f 100, f 101, f 102, f 103, f 104, f 105, f 106, f 107, f 108, f 109, f 110, f 111, f 112, f 113, f 114, f 115, f 116, f 117, f 118, f 119, f 120, f 121, f 122, f 123, f 124, f 125, f 126, f 127, f 128, f 129, f 130, f 131, f 132, f 133, f 134, f 135, f 136, f 137, f 138, f 139, f 140, f 141, f 142, f 143, f 144, f 145, f 146, f 147, f 148], []⟩ u := by
  have HC := hide hC
  have HF := hide hfit
  clear hC hfit
  simp only [h12, fstC, c12, restC, sndC, Try.f12, Option.getD_some]
  go_wp2_with fail
  go_loopg [17] 3 (fun k i wr => ∃ j : Nat, j ≤ 3 ∧ k = 3 - j ∧ i = .int .i64 ((j : Int) + 1) ∧ Two u0 wr F1 F2 b1 b2 B B)
  case atStart => exact ⟨0, Nat.zero_le _, by omega, rfl, unhide HC⟩
  case round =>
    obtain ⟨j, hj, hk, rfl, hCm⟩ := hrel
    have HK := hide hk
    have HCm := hide hCm
    clear hk hCm HC
    by_cases hlt : j < 3
    · obtain ⟨T, hT⟩ := unhide HF ((j : Int) + 1) (by omega) (by omega)
      have HT := hide hT
      clear hT HF
      go_wp2_with fail
      refine (tableS (tag := (j : Int) + 1) (unhide HCm).st1 (unhide HT)).mono ?_
      rintro e w3 ⟨l1, rfl, hT1, hb3⟩
      have HT1 := hide hT1
      have HS3 := hide ((unhide HCm).new hb3)
      clear hT1 hb3 HCm
      go_wp2_with fail
      refine (tableS (tag := (j : Int) + 1) (unhide HS3).st2 (unhide HT)).mono ?_
      rintro e w4 ⟨l2, rfl, hT2, hb4⟩
      have HT2 := hide hT2
      have HT3 := hide (tabR_keep (unhide HT1) (Fr.of_below (X := fun _ => False) hb4) (fun _ _ h => h))
      have HS4 := hide ((unhide HS3).new hb4)
      clear hT2 hb4 HT1 HS3
      go_wp2_with fail
      refine (sameTable_any (unhide HT3) (unhide HT2)).mono ?_
      rintro e w5 ⟨rfl, hb5⟩
      have HS5 := hide ((unhide HS4).new hb5)
      clear hb5 HS4 HT3 HT2 HT
      go_wp2_with fail
      go_roundg (3 - (j + 1))
      case measure => have := unhide HK; omega
      case rel => exact ⟨j + 1, by omega, rfl, by go_num, unhide HS5⟩
    · have hjn : j = 3 := by omega
      have HX : Hid (Below u0.heap.size u0 wr) := (unhide HCm).st1.below
      clear HCm HF HK
      subst hjn
      go_wp2_with fail
      exact unhide hQ _ _ rfl rfl rfl rfl (unhide HX)

end Go.Proofs.Ytgpplekabohneaa.Co

namespace Go.Proofs.Ytgpplekabohneaa.Co
open Go Go.Conc Go.ConcN Go.RowKit
open Classical

/-- The run comes to its end. -/
def EndsR (P : Program) (Post : Value → World → Prop) (m : Machine) (t : Trace) : Prop :=
  ∃ N last o w' t', runNT P (N + 1) m t = (.ended o w', t') ∧ runN P N m = .next last ∧ Go.step P last = .ended o w' ∧ Conc.Good P Post last o w' t'

theorem reaches_end {P : Program} {Post : Value → World → Prop} {m : Machine} {t : Trace} (h : Reaches P m t (EndsR P Post)) : EndsR P Post m t := by
  obtain ⟨N0, m', t', h1, N, last, o, w', t'', h2, h3, h4, h5⟩ := h
  refine ⟨N0 + N, last, o, w', t'', ?_, ?_, h4, h5⟩
  · rw [Nat.add_assoc, runNT_add, h1]
    exact h2
  · have : runN P N0 m = .next m' := by rw [← runNT_fst P N0 m t, h1]
    rw [runN_add, this]
    exact h3

section
variable {P : Program} {Shun : Loc → Prop} {K D : Nat → Prop} {Z : Nat → Option Obj} {F : FuncId → Prop} {Tp : Nat → Trace → Prop} {n : Nat} {b : Frame} {a : Go.Act} {k : List Item} {w : World} {m : Machine} {t : Trace}

theorem Be.ends (E : Env P F Shun K n Tp b) (hd : a.defers = []) {fn : Func} (hfn : P.funcs[b.fn]? = some fn) (hi : P.inits.idxOf? b.fn = none) {r : Tmp} {v : Value} (hres : fn.results = #[.tmp r]) (hv : a.tmps.getD r undef = v) {Post : Value → World → Prop}
    (hpost : ∀ Y, Twin P K D (tp w Y.tape Y.drawn) Y → (∀ b, D b → Y.heap[b]? = Z b) → Post v Y) (hb : Be P Shun K D Z Tp n (b.at a (.code .ret :: k)) [] w m t) : Reaches P m t (EndsR P Post) := by
  refine hb.ctl E.shun E.tr (fun _ => stepG_ret') fun m t hb' => ?_
  obtain ⟨Y, gs, sl, q, rfl, hn, hbs, hs, hT, hZ⟩ := hb'.out
  refine .here ?_
  have := ends_beside (P := P) (Shun := Shun) (Ev := fun _ _ => False) (fun _ _ h => h.elim) (Post := Post) _ (sl := sl) (Nat.le_refl _) hbs ⟨rfl, fun d => ⟨v, #[], ?_, by simp, ?_⟩⟩
  · exact this
  · have hr : (results fn a.tmps).run P (Y.at d) = .ok v (Y.at d) := by rw [results_tmp hres, hv]
    have hev : (results fn a.tmps).events P (Y.at d) #[] = #[] := by simp [results, hres]
    have hd' : a.defers = [] := hd
    have hk := E.kind
    simp [G, stepG, unwind, doReturn, Frame.at, hd', hk, hfn, hr, hi, hev, seen_none, GStep.after]
  · exact hpost (Y.at d) ⟨hs.sz, rfl, rfl, hs.os, hs.output, hs.live, hs.dead, hs.tame, hs.sub, hs.hi, hs.bad, hs.nop⟩ hZ

theorem be_start (W : World) (fr : Frame) : Be Try.prog (fun _ => False) (fun _ => False) (deadOf (fun _ => False) W) (fun k => W.heap[k]?) (Co.Tp 1) 1 fr [] (blank (deadOf (fun _ => False) W) W) (solo (G fr []) W) #[] := by
  refine ⟨W, #[G fr []], none, fun _ => 0, rfl, rfl, ⟨rfl, ⟨fun i g hi hg => ?_, fun j _ => ?_⟩, ?_, ?_, allO_lies _, fun _ _ h => h, fun _ h => h.elim⟩, same_blank (fun _ h => h.elim), ⟨fun i op h => by simp at h, fun i a ha => by simp [touchAt, Trace.act?] at ha, fun a i h => by simp [Trace.act?] at h⟩, fun _ _ => rfl⟩
  · have : i < 1 := (Array.getElem?_eq_some_iff.1 hg).1
    omega
  · rfl
  · exact calm_nil.wide (Nat.zero_le _)
  · rfl
end
end Go.Proofs.Ytgpplekabohneaa.Co
