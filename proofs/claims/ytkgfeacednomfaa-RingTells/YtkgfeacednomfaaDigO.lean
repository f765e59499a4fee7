/- Slices of digits that a call itself makes: owned rows, and what append does to one. -/
import Derived.Test.YtkgfeacednomfaaDig
import Derived.OwnWalk
import Derived.Laws.AppendOwn
import Derived.Laws.OwnMore
import Derived.Below
namespace Go.Proofs.Ytkgfeacednomfaa
open Go.RowKit
theorem Try.uInts : Try.prog.underlying 25 = some (.slice 3) := by kernel_rfl
theorem Try.iInt : (Try.prog.info? 3).map (fun i => (i.zero, i.size, i.bytes)) = some (some (.int .i64 0), 1, 8) := by kernel_rfl
abbrev iv (x : Nat) : Value := .int .i64 ((x : Nat) : Int)
/-- The slice v is a row that the call made (its block from B on), and holds xs. -/
def Ow (w : World) (B : Nat) (v : Value) (xs : List Nat) : Prop := w.ownsRow B 3 1 v xs.length (xs.map iv)
theorem Ow.nil (w : World) (B : Nat) : Ow w B (.slice none 0 0) [] := World.ownsRow_nil _ _ _ _
theorem Ow.up {W w1 : World} {B : Nat} {v : Value} {xs : List Nat} (h : Ow W B v xs) (hb : Below W.heap.size W w1) : Ow w1 B v xs := by
  refine ⟨h.1, ?_⟩
  rcases h.2 with h' | ⟨g, cap, cur, e, hB, hg, rest⟩
  · exact .inl h'
  · exact .inr ⟨g, cap, cur, e, hB, (hb.block g (Array.getElem?_eq_some_iff.1 hg).1).trans hg, rest⟩
theorem Ow.sl {w : World} {B : Nat} {v : Value} {xs : List Nat} (h : Ow w B v xs) : Sl w v xs := by
  rcases h.2 with ⟨e, e2⟩ | ⟨g, cap, cur, e, hB, hg, hn, rest⟩
  · exact .inl ⟨e, List.length_eq_zero_iff.1 e2⟩
  · refine .inr ⟨g, 0, cap, e, hn, fun j hj => ?_⟩
    have h2 : w.ownsRow B 3 1 (.slice (some ⟨g, 0, none⟩) xs.length cap) xs.length (xs.map iv) := by rw [← e]; exact h
    rw [Nat.zero_add, h2.cellAt j (by omega)]
    simp [hj, iv]
theorem Ow.ge {w : World} {B : Nat} {v : Value} {xs : List Nat} (h : Ow w B v xs) : blkGe B v := by
  rcases h.2 with ⟨e, _⟩ | ⟨g, cap, cur, e, hB, _⟩
  · rw [e]; exact trivial
  · rw [e]; exact hB
theorem Ow.size {w : World} {B g n c : Nat} {xs : List Nat} (h : Ow w B (.slice (some ⟨g, 0, none⟩) n c) xs) : g < w.heap.size := (h.lt g rfl).2
theorem wp_app {ops : Array Oper} {rest : List Oper} {o : Oper} {a : Act} {Q : Exit → Act → World → Prop} {w : World} (hgd : o.guard = none) (s x : Operand)
    (ho : o.op = .call { callee := .builtin .append, args := #[s, x], argTypes := #[25, 25] })
    (B : Nat) (v : Value) (xs : List Nat) (y : Nat) (z : Int) (W0 : World) (hs : a.eval s = v) (hown : Ow W0 B v xs) (hup : Below W0.heap.size W0 w) (ad : Addr) (hx : a.eval x = .slice (some ad) 1 1) (hc : w.cell? ad = some (.int .i64 z)) (hz : z = ((y : Nat) : Int))
    (hl : xs.length < 1099511627776) (hB : B ≤ W0.heap.size) (h : ∀ v' w', Ow w' B v' (xs ++ [y]) → Below B W0 w' → wpList Try.prog ops Q rest (a.put o.dst v') w') : wpList Try.prog ops Q (o :: rest) a w := by
  obtain ⟨i0, hi, hz0, hz1, hz2⟩ := info_parts Try.iInt
  subst hz
  have hs0 := hup.size
  refine wpList_append_own w hgd s x 25 ho B 3 i0 (.int .i64 0) 1 8 Try.uInts hi hz0 hz1 hz2 rfl (by decide) v xs.length (xs.map iv) hs (hown.up hup) ad 1 1 [iv y] hx rfl ?_ ?_ ?_ ?_ ?_ ?_
  · intro j u hj
    match j, hj with
    | 0, hj => simp at hj; subst hj; simpa [Addr.add] using hc
  · intro u hu; simp at hu; subst hu; rfl
  · unfold maxLen; omega
  · omega
  · omega
  · intro v' w' hown' hg _
    refine h v' w' ?_ ?_
    · unfold Ow
      rw [List.map_append, List.length_append]
      exact hown'
    · refine Below.grown (hup.mono hB) hg (by omega) fun k hk => ?_
      exact ((hown.up hup).lt k hk).1
end Go.Proofs.Ytkgfeacednomfaa
