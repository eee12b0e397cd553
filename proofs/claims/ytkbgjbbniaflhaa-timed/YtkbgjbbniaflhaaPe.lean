/- What '==' says of two structs of this program: ends, quotes, packets, keys. -/
import Derived.Test.YtkbgjbbniaflhaaPa
import Derived.Laws.StructEq
namespace Go.Proofs.Ytkbgjbbniaflhaa
open Go.RowKit

theorem eq34 (d : Nat) (a b c e : Int) (w : World) : (Op.equalIn (d + 2) 34 (.agg #[.int .i64 a, .int .i64 b]) (.agg #[.int .i64 c, .int .i64 e])).run Try.prog w = .ok (a == c && b == e) w := by
  have u3 := Try.underlying3
  have a3 := Try.isAgg3
  have z3 := Try.sizeOf3
  have hS : Try.prog.underlying 34 = some (.struct (Try.prog.fieldsOf 34)) := by kernel_rfl
  rw [show d + 2 = (d + 1) + 1 from rfl, run_equalIn_agg w (d + 1) 34 _ _ hS (by kernel_rfl)]
  simp only [Program.fieldsOf, Try.underlying34]
  go_simp
  by_cases h1 : a = c <;> by_cases h2 : b = e <;> simp [h1, h2]

theorem eq102 (d : Nat) (a b c e : Int) (w : World) : (Op.equalIn (d + 2) 102 (.agg #[.int .i64 a, .int .i64 b]) (.agg #[.int .i64 c, .int .i64 e])).run Try.prog w = .ok (a == c && b == e) w := by
  have u3 := Try.underlying3
  have a3 := Try.isAgg3
  have z3 := Try.sizeOf3
  have hS : Try.prog.underlying 102 = some (.struct (Try.prog.fieldsOf 102)) := by kernel_rfl
  rw [show d + 2 = (d + 1) + 1 from rfl, run_equalIn_agg w (d + 1) 102 _ _ hS (by kernel_rfl)]
  simp only [Program.fieldsOf, Try.underlying102]
  go_simp
  by_cases h1 : a = c <;> by_cases h2 : b = e <;> simp [h1, h2]

theorem eq129 (d : Nat) (a b c a' b' c' : Int) (w : World) : (Op.equalIn (d + 3) 129 (.agg #[.int .i64 a, .int .i64 b, .int .i64 c]) (.agg #[.int .i64 a', .int .i64 b', .int .i64 c'])).run Try.prog w = .ok (a == a' && (b == b' && c == c')) w := by
  have u3 := Try.underlying3
  have a3 := Try.isAgg3
  have z3 := Try.sizeOf3
  have a34 := Try.isAgg34
  have z34 := Try.sizeOf34
  have e34 := eq34 d
  have hS : Try.prog.underlying 129 = some (.struct (Try.prog.fieldsOf 129)) := by kernel_rfl
  rw [show d + 3 = (d + 2) + 1 from rfl, run_equalIn_agg w (d + 2) 129 _ _ hS (by kernel_rfl)]
  simp only [Program.fieldsOf, Try.underlying129]
  go_simp
  by_cases h1 : a = a' <;> by_cases h2 : b = b' <;> by_cases h3 : c = c' <;> simp [h1, h2, h3]

theorem eq36 (d : Nat) (a b c e a' b' c' e' : Int) (w : World) : (Op.equalIn (d + 3) 36 (.agg #[.int .i64 a, .int .i64 b, .int .i64 c, .int .i64 e]) (.agg #[.int .i64 a', .int .i64 b', .int .i64 c', .int .i64 e'])).run Try.prog w = .ok ((a == a' && b == b') && (c == c' && e == e')) w := by
  have a34 := Try.isAgg34
  have z34 := Try.sizeOf34
  have e34 := eq34 d
  have hS : Try.prog.underlying 36 = some (.struct (Try.prog.fieldsOf 36)) := by kernel_rfl
  rw [show d + 3 = (d + 2) + 1 from rfl, run_equalIn_agg w (d + 2) 36 _ _ hS (by kernel_rfl)]
  simp only [Program.fieldsOf, Try.underlying36]
  go_simp
  by_cases h1 : a = a' <;> by_cases h2 : b = b' <;> by_cases h3 : c = c' <;> by_cases h4 : e = e' <;> simp [h1, h2, h3, h4]

/-- are two packets the same? -/
def pkEq (p q : Pk) : Bool := p.tag == q.tag && (p.proto == q.proto && (p.out == q.out && ((p.sa == q.sa && p.sp == q.sp) && ((p.da == q.da && p.dp == q.dp) && (p.syn == q.syn && (p.fin == q.fin && (p.rst == q.rst && (p.err == q.err && ((p.qsa == q.qsa && p.qsp == q.qsp) && (p.qda == q.qda && p.qdp == q.qdp))))))))))

theorem eq38 (d : Nat) (p q : Pk) (w : World) : (Op.equalIn (d + 4) 38 (.agg (pkC p)) (.agg (pkC q))).run Try.prog w = .ok (pkEq p q) w := by
  have u3 := Try.underlying3
  have a3 := Try.isAgg3
  have z3 := Try.sizeOf3
  have u4 := Try.underlying4
  have a4 := Try.isAgg4
  have z4 := Try.sizeOf4
  have a34 := Try.isAgg34
  have z34 := Try.sizeOf34
  have a36 := Try.isAgg36
  have z36 := Try.sizeOf36
  have e34 := eq34 (d + 1)
  have e36 := eq36 d
  have hS : Try.prog.underlying 38 = some (.struct (Try.prog.fieldsOf 38)) := by kernel_rfl
  rw [show d + 4 = (d + 3) + 1 from rfl, run_equalIn_agg w (d + 3) 38 _ _ hS (by kernel_rfl)]
  simp only [Program.fieldsOf, Try.underlying38, pkC]
  go_simp
  unfold pkEq
  by_cases h0 : p.tag = q.tag
  case neg => simp [h0]
  by_cases h1 : p.proto = q.proto
  case neg => simp [h0, h1]
  by_cases h2 : p.out = q.out
  case neg => simp [h0, h1, h2]
  by_cases h3 : p.sa = q.sa
  case neg => simp [h0, h1, h2, h3]
  by_cases h4 : p.sp = q.sp
  case neg => simp [h0, h1, h2, h3, h4]
  by_cases h5 : p.da = q.da
  case neg => simp [h0, h1, h2, h3, h4, h5]
  by_cases h6 : p.dp = q.dp
  case neg => simp [h0, h1, h2, h3, h4, h5, h6]
  by_cases h7 : p.syn = q.syn
  case neg => simp [h0, h1, h2, h3, h4, h5, h6, h7]
  by_cases h8 : p.fin = q.fin
  case neg => simp [h0, h1, h2, h3, h4, h5, h6, h7, h8]
  by_cases h9 : p.rst = q.rst
  case neg => simp [h0, h1, h2, h3, h4, h5, h6, h7, h8, h9]
  by_cases h10 : p.err = q.err
  case neg => simp [h0, h1, h2, h3, h4, h5, h6, h7, h8, h9, h10]
  by_cases h11 : p.qsa = q.qsa
  case neg => simp [h0, h1, h2, h3, h4, h5, h6, h7, h8, h9, h10, h11]
  by_cases h12 : p.qsp = q.qsp
  case neg => simp [h0, h1, h2, h3, h4, h5, h6, h7, h8, h9, h10, h11, h12]
  by_cases h13 : p.qda = q.qda
  case neg => simp [h0, h1, h2, h3, h4, h5, h6, h7, h8, h9, h10, h11, h12, h13]
  by_cases h14 : p.qdp = q.qdp
  case neg => simp [h0, h1, h2, h3, h4, h5, h6, h7, h8, h9, h10, h11, h12, h13, h14]
  simp [h0, h1, h2, h3, h4, h5, h6, h7, h8, h9, h10, h11, h12, h13, h14]

end Go.Proofs.Ytkbgjbbniaflhaa
