/- '==' and '!=' of two points. -/
import Derived.Test.YtjcnfffmciahiaaEq
import Derived.Laws.StructEq
namespace Go.Proofs.Ytjcnfffmciahiaa
open Go.RowKit
theorem part_num (xs : Array Value) (off : Nat) (w : World) : (part 24 xs off).run Try.prog w = .ok (.agg (xs.extract off (off + 4))) w := by
  have hs : (Try.prog.info? 24).map (·.size) = some 4 := by kernel_rfl
  cases hq : Try.prog.info? 24 with
  | none => simp [hq] at hs
  | some i =>
    have hi : i.size = 4 := by simpa [hq] using hs
    simp [part, isAgg, run_underlying Try.underlying24, sizeOf, typeInfo, hq, hi]
set_option maxRecDepth 100000 in
theorem equalIn_num (x y : Nm) (w : World) : (Op.equalIn 9999 24 (N x) (N y)).run Try.prog w = .ok (Nm.beq x y) w := by
  have h := run_equalIn_array (P := Try.prog) (t := 24) (e := 22) w 9998 #[Value.int .u64 x.a, .int .u64 x.b, .int .u64 x.c, .int .u64 x.d] #[Value.int .u64 y.a, .int .u64 y.b, .int .u64 y.c, .int .u64 y.d] Try.underlying24 rfl
  rw [show Try.prog.cellsOf 22 = 1 by kernel_rfl, run_eqItems_ints 9997 (k := .u64) Try.underlying22 (by kernel_rfl) x.get y.get _ _ w _ (fun j hj => x.get_N j (List.mem_range.1 hj)) (fun j hj => y.get_N j (List.mem_range.1 hj))] at h
  rw [h]
  simp [List.range_succ, Nm.get, Nm.beq]
theorem point_fields : (Try.prog.fieldsOf 26).toList.map (fun f => (f.name, f.type, f.offset)) = [("X", 24, 0), ("Y", 24, 4)] := by kernel_rfl
theorem eqF (x y x' y' : Nm) (w : World) : (Op.equalIn 10000 26 (Wv x y) (Wv x' y')).run Try.prog w = .ok (Nm.beq x x' && Nm.beq y y') w := by
  rw [run_equalIn_struct w 9999 26 _ _ (by kernel_rfl) (by kernel_rfl)]
  have hf := point_fields
  generalize (Try.prog.fieldsOf 26).toList = fs at hf
  match fs, hf with
  | [], hf => simp at hf
  | [_], hf => simp at hf
  | _ :: _ :: _ :: _, hf => simp at hf
  | [f, g], hf =>
    simp only [List.map_cons, List.map_nil, List.cons.injEq, Prod.mk.injEq, and_true] at hf
    obtain ⟨⟨n1, t1, o1⟩, n2, t2, o2⟩ := hf
    have e1 : (#[Value.int .u64 x.a, .int .u64 x.b, .int .u64 x.c, .int .u64 x.d, .int .u64 y.a, .int .u64 y.b, .int .u64 y.c, .int .u64 y.d] : Array Value).extract 0 (0 + 4) = #[Value.int .u64 x.a, .int .u64 x.b, .int .u64 x.c, .int .u64 x.d] := by simp
    have e2 : (#[Value.int .u64 x'.a, .int .u64 x'.b, .int .u64 x'.c, .int .u64 x'.d, .int .u64 y'.a, .int .u64 y'.b, .int .u64 y'.c, .int .u64 y'.d] : Array Value).extract 0 (0 + 4) = #[Value.int .u64 x'.a, .int .u64 x'.b, .int .u64 x'.c, .int .u64 x'.d] := by simp
    have e3 : (#[Value.int .u64 x.a, .int .u64 x.b, .int .u64 x.c, .int .u64 x.d, .int .u64 y.a, .int .u64 y.b, .int .u64 y.c, .int .u64 y.d] : Array Value).extract 4 (4 + 4) = #[Value.int .u64 y.a, .int .u64 y.b, .int .u64 y.c, .int .u64 y.d] := by simp
    have e4 : (#[Value.int .u64 x'.a, .int .u64 x'.b, .int .u64 x'.c, .int .u64 x'.d, .int .u64 y'.a, .int .u64 y'.b, .int .u64 y'.c, .int .u64 y'.d] : Array Value).extract 4 (4 + 4) = #[Value.int .u64 y'.a, .int .u64 y'.b, .int .u64 y'.c, .int .u64 y'.d] := by simp
    have q1 := equalIn_num x x' w
    have q2 := equalIn_num y y' w
    simp only [Op.eqFields, n1, t1, o1, n2, t2, o2, Sem.run_bind, part_num, Result.andThen_ok, e1, e2, e3, e4, q1, q2, Sem.run_ite, Sem.run_pure]
    cases Nm.beq x x' <;> cases Nm.beq y y' <;> simp
theorem eqP (x y x' y' : Nm) (w : World) : (binOp .eql 26 (Wv x y) (Wv x' y')).run Try.prog w = .ok (.bool (Nm.beq x x' && Nm.beq y y')) w := by
  rw [run_eql_struct, eqF]
  rfl
theorem neP (x y x' y' : Nm) (w : World) : (binOp .neq 26 (Wv x y) (Wv x' y')).run Try.prog w = .ok (.bool (!(Nm.beq x x' && Nm.beq y y'))) w := by
  rw [run_neq_struct, eqF]
  rfl
end Go.Proofs.Ytjcnfffmciahiaa
