/- The contract of sealringkeep.modes: it answers true. -/
import Derived.Test.YtmfbdacalenfdaaGrp51
import Derived.Test.YtmfbdacalenfdaaBsMk
namespace Go.Proofs.Ytmfbdacalenfdaa
open Go.RowKit
set_option linter.unusedSimpArgs false
attribute [local go_sem] YieldsP execOp
attribute [local simp] MP.eq_p
theorem built_a16 : Try.prog.built 23 [] = some ((List.replicate 16 0).map b8).toArray := by kernel_rfl
theorem wp_build0G {ops : Array Oper} {rest : List Oper} {o : Oper} {a : Act} {Q : Exit → Act → World → Prop} {w : World} (hgd : Region.wanted o (yielded ops a.tmps) = true) (t : TypeId) (ho : o.op = .build t #[]) (cs : Array Value) (hb : Try.prog.built t [] = some cs) (h : wpList Try.prog ops Q rest (a.put o.dst (.agg cs)) w) : wpList Try.prog ops Q (o :: rest) a w := by
  refine wpList_step fun K hK => ?_
  simp only [hgd, if_true]
  have e1 : (Instr.build t ((#[] : Array (Nat × Operand)).map fun x => (x.fst, a.eval x.snd))).run Try.prog w = .ok (.agg cs) w := run_build w t _ _ (by simpa using hb)
  unfold Oper.wp
  simp only [execOp, ho, Sem.run_bind, e1, Result.andThen_ok, Sem.run_pure]
  exact hK _ _ h
theorem zeros_ok (n : Nat) : A.ok n (List.replicate n 0) := ⟨List.length_replicate .., fun x hx => by rw [(List.mem_replicate.1 hx).2]; decide⟩
set_option maxRecDepth 20000 in
set_option maxHeartbeats 1000000 in
theorem modes_fun {Tb : World → Prop} {zk : List Value} {Ky : World → List Value → List Nat → Prop} (C : AesC Tb zk Ky) (M : ModeC Tb Ky) (w : World) (ht : Tb w) : Calls Try.prog 18 #[] w fun e w' => e = .returned (.bool true) ∧ Below w.heap.size w w' := by
  have KB : KeyB (List.replicate 16 0) := ⟨.inl (List.length_replicate ..), (zeros_ok 16).2⟩
  have TU : Hid (∀ W, Below w.heap.size w W → Tb W) := fun W hW => C.tb ht hW
  have EX : Hid _ := C.expand (List.replicate 16 0)
  have SM : Hid (∀ cs W, Below w.heap.size w W → Ky W cs (List.replicate 16 0) → Calls Try.prog 15 #[.agg cs.toArray, aB (List.replicate 16 0), .slice none 0 0] W fun e w' => ∃ x c, e = .returned (.slice x 16 c) ∧ Below W.heap.size W w') := fun cs W hW hK => by
    refine (M.seals (List.replicate 16 0) cs (List.replicate 16 0) [] (.slice none 0 0) KB (zeros_ok 16) (by simp) (by simp) W (C.tb ht hW) hK (By.nil W)).mono fun e w' ⟨x, he, ho, hb⟩ => ?_
    obtain ⟨a, c, e2, _, _, _⟩ := ho.by
    have hl := (sealS_ok KB.ws (zeros_ok 16) (p := []) (by simp)).1
    rw [hl] at e2
    exact ⟨a, c, by rw [he, e2]; rfl, hb⟩
  obtain ⟨Z, hZ⟩ : ∃ Z : List Nat, Z = List.replicate 16 0 := ⟨_, rfl⟩
  have BZ : Hid _ := built_a16
  rw [← hZ] at EX SM KB BZ
  have HZ : Hid (Z = List.replicate 16 0) := hZ
  clear hZ
  go_enter Try.func18, Try.ntmps18
  go_wp2_with (at_make; refine wp_mkB rfl _ _ rfl w.heap.size 16 _ _ rfl rfl rfl rfl (by decide) (Nat.le_refl _) ?_)
  intro w1 o1 hb1
  have D1 : Hid (Below w.heap.size w w1) := hb1
  have B1 : Hid (By w1 (.slice (some ⟨w.heap.size, 0, none⟩) 16 16) Z) := by rw [HZ.out]; exact o1.by
  clear o1 hb1
  go_wp2_with fail
  refine Calls.mono (EX.out _ KB w1 (TU.out w1 D1.out) B1.out) ?_
  rintro e w2 ⟨cs, rfl, hky, hb2⟩
  have KY : Hid (Ky w2 cs Z) := hky
  have D2 : Hid (Below w.heap.size w w2) := D1.out.trans (hb2.mono D1.out.size)
  have CL : Hid (cs.length = zk.length) := C.size hky
  have CO : Hid (∀ v ∈ cs, v.oneCell' = true) := C.one hky
  clear hky hb2 EX B1 D1
  go_wp2_with (refine C.make rfl rfl 1 (.tmp 6) rfl rfl rfl rfl cs CL.out CO.out rfl rfl ?_)
  intro w3 k3 hb3
  obtain ⟨kk, hkk⟩ : ∃ kk, kk = w2.heap.size := ⟨_, rfl⟩
  rw [← hkk] at k3 ⊢
  have K3 : Hid (Blk w3 kk cs) := k3
  have KY3 : Hid (Ky w3 cs Z) := C.up KY.out hb3
  have D3 : Hid (Below w.heap.size w w3) := D2.out.trans (hb3.mono D2.out.size)
  obtain ⟨dk, huk, hrk⟩ := C.row
  have IK : Hid _ := C.info.trans (congrArg some CL.out.symm)
  clear k3 hb3 hkk KY D2
  go_wp2_with (first | refine wp_ldG rfl 28 (.tmp 1) rfl kk 0 rfl cs dk K3.out.all huk hrk IK.out ?_ | refine wp_build0G rfl 23 rfl _ BZ.out ?_)
  refine Calls.mono (SM.out cs w3 D3.out KY3.out) ?_
  rintro e w4 ⟨x4, c4, rfl, hb4⟩
  have D4 : Hid (Below w.heap.size w w4) := D3.out.trans (hb4.mono D3.out.size)
  clear hb4
  go_wp2_with fail
  go_ret
  exact ⟨rfl, D4.out⟩
end Go.Proofs.Ytmfbdacalenfdaa
