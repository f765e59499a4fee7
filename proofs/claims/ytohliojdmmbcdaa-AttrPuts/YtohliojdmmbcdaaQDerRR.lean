/- The contracts of sealringref.ReadItems, and of SameItems at items that are the same. -/
import Derived.Test.YtohliojdmmbcdaaQDerRdToDerRead
import Derived.Test.YtohliojdmmbcdaaQDerRF
import Derived.Test.YtohliojdmmbcdaaQUpM
namespace Go.Proofs.Ytohliojdmmbcdaa
open Go.RowKit
attribute [local go_sem] YieldsP execOp
attribute [local simp] MP.eq_p
set_option linter.unusedSimpArgs false
def lenSb : Value → Nat
  | .string s => s.size
  | _ => 0
set_option maxRecDepth 20000 in
set_option maxHeartbeats 4000000 in
theorem readItems_some (b0 : List Nat) (low : ∀ x ∈ b0, x < 256) (hm : b0.length ≤ 65536) (w : World) :
    Calls Try.prog 38 #[.string (sOf b0)] w fun e w' => ReadIs b0 w.heap.size e w' ∧ Below w.heap.size w w' := by
  have LO : Hid (∀ x ∈ b0, x < 256) := low
  have sz := sOf_size b0
  have m1 : ¬ ((sOf b0).size : Int) > 65536 := by omega
  clear low hm sz
  go_enter Try.func38, Try.ntmps38
  go_wp2_with fail
  go_loopw [0, 4] (fun bv lv wr => ∃ (b : List Nat) (l : List It), l.length ≤ 200 ∧ bv = .string (sOf b) ∧ Hid (∀ x ∈ b, x < 256) ∧ Hid (readS 200 b0 = joinS l (readS (200 - l.length) b)) ∧ Hid (Oi wr w.heap.size lv l) ∧ Hid (Below w.heap.size w wr)) (fun bv _ _ => lenSb bv)
  case atStart =>
    refine ⟨b0, [], by simp, rfl, LO, ?_, Oi.nil _ _, Below.refl _ _⟩
    have : readS 200 b0 = joinS [] (readS (200 - 0) b0) := by
      cases readS 200 b0 <;> rfl
    exact this
  case round =>
    clear LO
    obtain ⟨b, l, hl, rfl, low, hr, ho, hb⟩ := hrel
    have sz := sOf_size b
    have DR : Hid (∀ n, n ≤ b.length → (sOf b).extract n b.length = sOf (b.drop n)) := by
      intro n hn
      have := sOf_cut (b := b) n b.length (Nat.le_refl _) hn
      rwa [List.take_of_length_le (by simp)] at this
    obtain ⟨al, nl, cl, rfl⟩ : ∃ a n c, u4 = .slice a n c := by
      obtain ⟨a, c, e, _⟩ := ho.out.its
      exact ⟨a, _, c, e⟩
    have hnl : nl = l.length := by
      obtain ⟨a, c, e, _⟩ := ho.out.its
      cases e
      rfl
    subst hnl
    by_cases h0 : b.length = 0
    · have e : b = [] := List.length_eq_zero_iff.1 h0
      subst e
      have E : Hid (readS 200 b0 = .inr l) := by
        have := hr.out
        rw [readS, joinS, List.append_nil] at this
        exact this
      have s0 : (sOf []).size = 0 := rfl
      clear DR sz
      go_wp2_with fail
      go_ret2
      exact ⟨.inr ⟨l, _, E.out, rfl, ho.out⟩, hb.out⟩
    · have i0 : ((sOf b).size : Int) > 0 := by omega
      have ne : b ≠ [] := fun e => h0 (by rw [e]; rfl)
      by_cases h200 : l.length = 200
      · have E : Hid (readS 200 b0 = .inl 2) := by
          have := hr.out
          rw [h200] at this
          match b, ne with
          | x :: b, _ =>
            rw [readS] at this
            exact this
        clear DR sz
        rw [h200]
        go_wp2_with fail
        go_ret2
        exact ⟨.inl ⟨2, .inl rfl, E.out, rfl⟩, hb.out⟩
      · have i1 : ¬ (l.length : Int) = 200 := by omega
        have i2 : ¬ (l.length : Int) ≥ 200 := by omega
        have e1 : 200 - l.length = (200 - (l.length + 1)) + 1 := by omega
        have HR : Hid (readS 200 b0 = joinS l (readS ((200 - (l.length + 1)) + 1) b)) := by
          have := hr.out
          rw [e1] at this
          exact this
        have FI : Hid _ := fun w => firstItem_fun b low.out w
        have SZ : Hid ((sOf b).size = b.length) := sz
        clear hr e1 i1 sz
        generalize hs : sOf b = s at *
        have HS : Hid (sOf b = s) := hs
        clear hs
        go_wp2_with fail
        refine (FI.out _).mono ?_
        rintro e w1 ⟨hf, hb1⟩
        have B1 : Hid (Below w.heap.size w w1) := hb.out.trans (hb1.mono hb.out.size)
        have O1 : Hid (Oi w1 w.heap.size (.slice al l.length cl) l) := ho.out.up hb1
        clear ho
        rcases hf with ⟨n, hn, rfl⟩ | ⟨x, n, u, hn, rfl, hu⟩
        · have n3 := firstS_inl low.out hn
          have E : Hid (readS 200 b0 = .inl n) := HR.out.trans (readS_err ne hn l)
          have N3 : Hid _ := n3
          have nz : ¬ (n : Int) = 0 := by omega
          clear hb hb1 hn n3 DR
          go_wp2_with fail
          go_ret2
          exact ⟨.inl ⟨n, N3.out, E.out, rfl⟩, B1.out.alloc B1.out.size _⟩
        · obtain ⟨n2, nle, _, _, _, _⟩ := firstS_inr low.out hn
          have E : Hid (readS 200 b0 = joinS (l ++ [x]) (readS (200 - (l.length + 1)) (b.drop n))) := HR.out.trans (readS_step ne hn l)
          have U1 : Hid (Bk w1 u x.body) := hu
          obtain ⟨au, cu, rfl⟩ := hu.1.len
          have T : Hid (s.extract n s.size = sOf (b.drop n)) := by
            have := DR.out n nle
            rw [← SZ.out] at this
            exact this
          have nle2 : n ≤ s.size := by rw [SZ.out]; exact nle
          have n0 : (0 : Int) ≤ (n : Int) := by omega
          have LD : Hid (∀ y ∈ b.drop n, y < 256) := (fun y hy => low.out y (List.mem_of_mem_drop hy) : ∀ y ∈ b.drop n, y < 256)
          clear hb hb1 hn low hu HR DR
          go_wp2_with (at_builtin; refine wp_appI rfl _ _ rfl w.heap.size _ l x (.slice au x.body.length cu) (w1.heap.size + 1) w1 rfl O1.out (((Below.refl _ _).alloc (Nat.le_refl _) _).alloc (by simp) _) rfl ((cell_top (by simp)).trans (by simp)) ((cell_top (by simp)).trans (by simp)) (U1.out.up (((Below.refl _ _).alloc (Nat.le_refl _) _).alloc (by simp) _)) rfl (by omega) B1.out.size ?_)
          intro v2 w2 o2 g2 b2
          have O2 : Hid (Oi w2 w.heap.size v2 (l ++ [x])) := o2
          have B2 : Hid (Below w.heap.size w w2) := B1.out.trans b2
          clear o2 g2 b2 O1 U1 B1
          go_wp2_with fail
          go_roundw
          case rel =>
            refine ⟨b.drop n, l ++ [x], by simp; omega, by rw [T.out], LD, ?_, O2, B2⟩
            have := E.out
            have e : (l ++ [x]).length = l.length + 1 := by simp
            rw [e]
            exact this
          case measure =>
            have := SZ.out
            simp [lenSb]
            omega
set_option maxHeartbeats 1000000 in
theorem readItems_large (s : ByteArray) (h : 65536 < s.size) (w : World) :
    Calls Try.prog 38 #[.string s] w fun e w' => e = .returned (.tuple #[.slice none 0 0, i64 2]) ∧ Below w.heap.size w w' := by
  have i2 : (s.size : Int) > 65536 := by omega
  go_enter Try.func38, Try.ntmps38
  go_wp2_with fail
  go_ret2
  exact ⟨rfl, Below.refl _ _⟩
/-- The answer of Read as an error and items. -/
def readR (b : List Nat) : Nat × List It := if 65536 < b.length then (2, []) else match readS 200 b with
  | .inl n => (n, [])
  | .inr l => (0, l)
theorem Its.nil (w : World) : Its w (.slice none 0 0) [] := ⟨none, 0, rfl, Nat.le_refl _, fun _ => rfl, fun h => absurd h (Nat.lt_irrefl _)⟩
theorem readIs_any {b : List Nat} {B : Nat} {e : Ending} {w' : World} (hb : ¬ 65536 < b.length) (h : ReadIs b B e w') : ∃ u, e = .returned (.tuple #[u, i64 (readR b).1]) ∧ Its w' u (readR b).2 := by
  unfold readR
  rw [if_neg hb]
  rcases h with ⟨n, _, hn, rfl⟩ | ⟨l, u, hl, rfl, ho⟩
  · rw [hn]; exact ⟨_, rfl, Its.nil _⟩
  · rw [hl]; exact ⟨_, rfl, ho.its⟩
theorem readItems_any (b : List Nat) (low : ∀ x ∈ b, x < 256) (w : World) :
    Calls Try.prog 38 #[.string (sOf b)] w fun e w' => (∃ u, e = .returned (.tuple #[u, i64 (readR b).1]) ∧ Its w' u (readR b).2) ∧ Below w.heap.size w w' := by
  by_cases hb : 65536 < b.length
  · refine (readItems_large (sOf b) (by rw [sOf_size]; exact hb) w).mono ?_
    rintro e w' ⟨rfl, h2⟩
    refine ⟨?_, h2⟩
    unfold readR
    rw [if_pos hb]
    exact ⟨_, rfl, Its.nil _⟩
  · refine (readItems_some b low (by omega) w).mono ?_
    rintro e w' ⟨h1, h2⟩
    exact ⟨readIs_any hb h1, h2⟩
end Go.Proofs.Ytohliojdmmbcdaa
