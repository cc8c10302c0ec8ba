/- readFormula: the machine that reads a formula. -/
import Derived.Test.YtohmhiodmaahfaaDoorRfP
import Derived.Outline
import Derived.Deep.AppendLies
import Derived.Deep.RegionLaw
namespace Go.Proofs.YtohmhiodmaahfaaDoor
open Go.RowKit
set_option linter.unusedVariables false

/-- what holds at a jump to a label -/
def RfJ (s : ByteArray) (w : World) (R : Option Fm) (l : Nat) (a : Act) (w' : World) : Prop := (l = 0 ∧ RfB s w R a w') ∨ (l = 1 ∧ RfE s w R a w')
def RfMu (s : ByteArray) (l : Nat) (a : Act) (_ : World) : Nat := 2 * (s.size - (intOf (a.tmps.getD 7 undef)).toNat) + l

set_option maxRecDepth 100000 in
set_option maxHeartbeats 8000000 in
theorem readFormula_small (s : ByteArray) (w : World) (hs : s.size ≤ 80) {R : Option Fm} (hR : wholeF (byteAt s) s.size = R) :
    Calls Tryd.prog 30 #[.string s] w fun e w' => RfPost w R e w' := by
  have h80 : ¬ (80 : Int) < (s.size : Int) := by omega
  have HS := Lib.hid hs
  have HR := Lib.hid hR
  obtain ⟨i0, hi, hz0, hz1, hz2⟩ := info_parts infoFm
  clear hR hs
  go_enter Tryd.func30, Tryd.ntmps30
  go_wp2
  refine wp_scope_two (by rfl) (by rfl) (RfJ s w R) (RfMu s) (fun l a w h => by rcases h with h | h <;> simp [h.1]) ?_ ?_ ?_
  · intro M a w' hJ hM
    have hE : RfE s w R a w' := by
      rcases hJ with ⟨h, _⟩ | ⟨_, h⟩
      · cases h
      · exact h
    clear hJ
    obtain ⟨S, t, k, cap0, a0, ua, uc, bs, bt, ⟨u1, u5, u8, u9, u10, u11, u12, u13, u14, u15, u16, u17, u18, u19, u20, u21, u22, u23, u24, u25, u26, u27, u28, u29, u30, u31, u32, u33, u34, u35, u36, u37, u38, u39, u40, u41, u42, u43, u44, u45, u46, u47, u48, u49, u50, u51, u52, u53, u54, u55, u56, u57, u58, u59, u60, u61, u62, u63, u64, u65, u66, u67, u68, u69, u70, u71, u72, u73, u74, u75, u76, u77, u78, u79, u80, u81, u82, u83, u84, u85, u86, u87, u88, u89, u90, u91, u92, u93, u94, u95, u96, u97, u98, u99, u100, u101, rfl⟩, hm, ht, hnd, htk, hR⟩ := hE
    obtain ⟨hL, kr, kf, hold, hop, hfew, hkb⟩ := hm
    have HM : Hid (2 * (s.size - k) + 1 ≤ M) := hM
    have HT := Lib.hid ht
    have HND := Lib.hid hnd
    have HKB := Lib.hid hkb
    have HTK := Lib.hid htk
    clear hM ht hnd HR htk
    rcases List.eq_nil_or_concat S with rfl | ⟨S0, b, hS⟩
    · have HF : Hid (R = if k = s.size then some t else none) := hR
      have kr2 := (kr.put0 (.int .u8 t.sign)).put1 (.slice a0 t.members.length cap0)
      have hL2 := (hL.setCell (p := ⟨w.heap.size, 0, none⟩) (Nat.le_refl _) (.int .u8 t.sign)).setCell (p := ⟨w.heap.size, 1, none⟩) (Nat.le_refl _) (.slice a0 t.members.length cap0)
      have HT2 := Lib.hid ((HT.out.setBox ⟨w.heap.size, 0, none⟩ (.int .u8 t.sign) (by simp)).setBox ⟨w.heap.size, 1, none⟩ (.slice a0 t.members.length cap0) (by simp))
      clear hR hold hop hfew
      by_cases hk : k = s.size
      · have q : ((k : Int) == (s.size : Int)) = true := by simp [hk]
        have HF2 : Hid (R = some t) := by have h := HF.out; rwa [if_pos hk] at h
        clear hk hkb
        go_wp2
        simp only [jumpN]
        refine bodyPost_ret (v := .tuple #[.agg #[.int .u8 t.sign, .slice a0 t.members.length cap0], .bool true]) (by simp [results, Tryd.results30, go_sem, *]) rfl ?_
        exact ⟨t.sign, a0, t.members.length, cap0, true, rfl, by rw [HF2.out]; rfl, (fun t' h => by rw [HF2.out] at h; cases h; exact ⟨rfl, rfl, bt, HT2.out⟩), hL2⟩
      · have q : ((k : Int) == (s.size : Int)) = false := by simp; omega
        have HF2 : Hid (R = none) := by have h := HF.out; rwa [if_neg hk] at h
        clear hk hkb
        go_wp2
        simp only [jumpN]
        refine bodyPost_ret (v := .tuple #[.agg #[.int .u8 t.sign, .slice a0 t.members.length cap0], .bool false]) (by simp [results, Tryd.results30, go_sem, *]) rfl ?_
        exact ⟨t.sign, a0, t.members.length, cap0, false, rfl, by rw [HF2.out]; rfl, (fun t' h => by rw [HF2.out] at h; cases h), hL2⟩
    · rw [List.concat_eq_append] at hS
      subst hS
      obtain ⟨c, acc⟩ := b
      have hlen : (S0 ++ [Fm.mk c acc]).length = S0.length + 1 := by simp
      rw [hlen] at hold
      obtain ⟨g, rfl⟩ : ∃ g, ua = some ⟨g, 0, none⟩ := by
        obtain ⟨V, h1, _⟩ := hold.row
        rcases h1.2 with ⟨_, h⟩ | ⟨g, cap, cur, h, _⟩
        · rw [hlen] at h; cases h
        · simp only [Value.slice.injEq] at h; exact ⟨g, h.1⟩
      have hoc : Hid (openC c = true) := hop (.mk c acc) (by simp)
      have hop0 : Hid (∀ f ∈ S0, openC f.sign = true) := fun f hf => hop f (by simp [hf])
      have hfw : Hid (S0.length + 1 ≤ k ∧ acc.length + 2 ≤ k ∧ ∀ f ∈ S0, f.members.length + 2 ≤ k) := by
        refine ⟨by have := hfew.1; rw [hlen] at this; exact this, ?_, fun f hf => hfew.2 f (by simp [hf])⟩
        exact hfew.2 (.mk c acc) (by simp)
      rw [stk_snoc] at hR
      have HR2 := Lib.hid hR
      obtain ⟨u, bs1, bs2, hc0, hc1, hf0, hf1, htop, hnd2, hmem, hgB, hgs, hpop, hput⟩ := Hold.top rfl hold (List.nodup_append.1 HND.out).1
      have HOLD := Lib.hid hold
      have HC1 := Lib.hid hc1
      have HTop := Lib.hid htop
      have HN2 := Lib.hid hnd2
      have HMem := Lib.hid hmem
      have HPop := Lib.hid hpop
      have HPut := Lib.hid hput
      clear hR hop hfew hold htop hnd2 hmem hpop hput
      rw [show 2 * S0.length = S0.length * 2 by omega] at hc0 hc1 hf0 hf1
      rw [hlen]
      have hn80 : S0.length ≤ 80 := by have := hfw.out.1; have := HKB.out; have := HS.out; omega
      have hm80 : acc.length ≤ 80 := by have := hfw.out.2.1; have := HKB.out; have := HS.out; omega
      obtain ⟨ua2, uc2, hu⟩ := HTop.out.form
      have hu' : u = .slice ua2 acc.length uc2 := hu
      subst hu'
      obtain ⟨V2, hV2, hin2, _⟩ := HTop.out.row
      have HRow : Hid (w'.ownsRow (w.heap.size + 2) 50 2 (.slice ua2 acc.length uc2) acc.length (cellsF acc V2)) := hV2
      have hlt2 := World.ownsRow.lt hV2
      have hsepr : Hid (Value.ownBlock (.slice ua2 acc.length uc2) ≠ some w.heap.size) := fun e => by have := (hlt2 _ e).1; omega
      have hsepf : Hid (Value.ownBlock (.slice ua2 acc.length uc2) ≠ some (w.heap.size + 1)) := fun e => by have := (hlt2 _ e).1; omega
      have hsepg : Hid (Value.ownBlock (.slice ua2 acc.length uc2) ≠ some g) := fun e => (List.nodup_cons.1 HN2.out).1 (List.mem_append.2 (.inr (hin2 _ e)))
      have hfrom : Hid (∀ q, Value.ownBlock (.slice ua2 acc.length uc2) = some q → w.heap.size + 2 ≤ q) := fun q e => (hlt2 _ e).1
      have hzr := kf.2.2.2.2
      have hI0 : (0 : Int) ≤ (acc.length : Int) := by omega
      have hI1 : (acc.length : Int) < ((acc.length + 1 : Nat) : Int) := by omega
      have hI2 : (acc.length : Int) < (acc.length : Int) + 1 := by omega
      clear hu hV2 hin2 hlt2
      go_upto_region 18 with fail
      go_cut [58] (fun s58 wx => Below w.heap.size w wx ∧ C2 wx w.heap.size (.int .u8 0) (.slice none 0 0) ∧ C2 wx (w.heap.size + 1) (.int .u8 t.sign) (.slice a0 t.members.length cap0) ∧ HoldN wx (w.heap.size + 2) (.slice (some ⟨g, 0, none⟩) (S0.length + 1) uc) (S0 ++ [.mk c (acc ++ [t])]))
      case first =>
        go_region_law (refine step_append_lies _ (by rfl) _ _ 48 (by rfl) (w.heap.size + 2) 50 i0 (.agg #[.int .u8 0, .slice none 0 0]) 2 32 Tryd.underlying48 hi hz0 hz1 hz2 (by rfl) (by decide) (.slice ua2 acc.length uc2) acc.length (cellsF acc V2) (by rfl) (World.ownsRow.drew (World.ownsRow.alloc HRow.out _)) ⟨w'.heap.size, 0, none⟩ 1 1 [.int .u8 0, .slice none 0 0] (by rfl) (by rfl) (World.news_of_block (cs := #[.int .u8 0, .slice none 0 0]) (t := 50) (fr := (0, 0)) (heap_alloc_new w' _)) (by simp [Value.oneCell']) (by decide) (by unfold maxLen; omega) (by omega) (by simp; omega) (w'.heap.size + 1) (by simp) ?_; intro gv cap2 w3 hown hgrow_ hat hlt3; have hgrow : (w'.alloc (.cells #[.int .u8 0, .slice none 0 0] 50)).grownBy w3 (Value.ownBlock (.slice ua2 acc.length uc2)) := ⟨hgrow_.os, hgrow_.tape, hgrow_.output, hgrow_.size, hgrow_.block⟩; have kf3 := C2.grown (kf.alloc (.cells #[.int .u8 0, .slice none 0 0] 50)) hgrow hsepf.out; have kr3 := C2.grown (kr.alloc (.cells #[.int .u8 0, .slice none 0 0] 50)) hgrow hsepr.out; have hL3 := (hL.alloc (by omega) (.cells #[.int .u8 0, .slice none 0 0] 50)).grown hgrow (by rw [World.size_alloc]; omega) (fun q e => by have := hfrom.out q e; omega); have hgv : gv ≠ g := (by intro e; subst e; rcases hat with h | h; exact hsepg.out h; omega); have hcA := hown.cellAt (acc.length * 2) (by omega); have hcB := hown.cellAt (acc.length * 2 + 1) (by omega); have hfA := hown.frozenAt (acc.length * 2); have hfB := hown.frozenAt (acc.length * 2 + 1); rw [List.getElem?_append_right (by rw [cellsF_len]; omega), cellsF_len, show acc.length * 2 - 2 * acc.length = 0 by omega] at hcA; rw [List.getElem?_append_right (by rw [cellsF_len]; omega), cellsF_len, show acc.length * 2 + 1 - 2 * acc.length = 1 by omega] at hcB; have hd1 := (hgrow.cell_far ⟨g, S0.length * 2 + 1, none⟩ (by simp; omega) (Ne.symm hsepg.out)).trans ((World.cell?_alloc_lt w' _ _ (by simpa using hgs)).trans hc1); have hd0 := (hgrow.cell_far ⟨g, S0.length * 2, none⟩ (by simp; omega) (Ne.symm hsepg.out)).trans ((World.cell?_alloc_lt w' _ _ (by simpa using hgs)).trans hc0); have hfd1 := (hgrow.frozen_far ⟨g, S0.length * 2 + 1, none⟩ (by simp; omega) (Ne.symm hsepg.out)).trans ((World.frozen?_of_block (w := w') (Below.heap_alloc w' _ g hgs)).trans hf1); have hgvB := (World.ownsRow.lt hown gv rfl).1; have HLA := Lib.hid (((hL3.setCell (p := ⟨gv, acc.length * 2, none⟩) (by simp only; omega) (.int .u8 t.sign)).setCell (p := ⟨gv, acc.length * 2 + 1, none⟩) (by simp only; omega) (.slice a0 t.members.length cap0)).setCell (p := ⟨g, S0.length * 2 + 1, none⟩) (by simp only; omega) (.slice (some ⟨gv, 0, none⟩) (acc.length + 1) cap2)); have HRA := Lib.hid (((kr3.set gv (acc.length * 2) (.int .u8 t.sign) (by omega)).set gv (acc.length * 2 + 1) (.slice a0 t.members.length cap0) (by omega)).set g (S0.length * 2 + 1) (.slice (some ⟨gv, 0, none⟩) (acc.length + 1) cap2) (by omega)); have HFA := Lib.hid (((kf3.set gv (acc.length * 2) (.int .u8 t.sign) (by omega)).set gv (acc.length * 2 + 1) (.slice a0 t.members.length cap0) (by omega)).set g (S0.length * 2 + 1) (.slice (some ⟨gv, 0, none⟩) (acc.length + 1) cap2) (by omega)); have HPA : Hid (HoldN (((w3.setCell ⟨gv, acc.length * 2, none⟩ (.int .u8 t.sign)).setCell ⟨gv, acc.length * 2 + 1, none⟩ (.slice a0 t.members.length cap0)).setCell ⟨g, S0.length * 2 + 1, none⟩ (.slice (some ⟨gv, 0, none⟩) (acc.length + 1) cap2)) (w.heap.size + 2) (.slice (some ⟨g, 0, none⟩) (S0.length + 1) uc) (S0 ++ [.mk c (acc ++ [t])])) := (by have h := rf_put (t := t) (c := c) _ rfl rfl HOLD.out HT.out HND.out HC1.out HRow.out hgrow hown hat; rw [show 2 * S0.length = S0.length * 2 by omega] at h; exact h); have HNE : Hid (g ≠ gv) := (Ne.symm hgv))
        all_goals go_wp2_with fail
        all_goals go_meet
        all_goals (first | exact ⟨HLA.out, HRA.out, HFA.out, HPA.out⟩ | (rw [setCell_two w3 ⟨g, S0.length * 2 + 1, none⟩ ⟨gv, acc.length * 2, none⟩ _ _ HNE.out, setCell_two _ ⟨g, S0.length * 2 + 1, none⟩ ⟨gv, acc.length * 2 + 1, none⟩ _ _ HNE.out]; exact ⟨HLA.out, HRA.out, HFA.out, HPA.out⟩))
      case rest =>
        clear hL kr kf hc0 hc1 hf0 hf1 HPut HPop HTop HMem HN2 HRow HOLD HC1 HND HT hsepr hsepf hsepg hfrom hI0 hI1 hI2 hzr hgs
        obtain ⟨hL, kr, kf, bs', hH, hndH⟩ := hcut
        have hlen2 : (S0 ++ [Fm.mk c (acc ++ [t])]).length = S0.length + 1 := by simp
        obtain ⟨u3, b1, b2, d0, d1, f0, f1, htop, hnd3, hmem3, _, hgs, hpop, _⟩ := Hold.top rfl hH hndH
        obtain ⟨ua3, uc3, hu3⟩ := htop.form
        have hu3' : u3 = .slice ua3 (acc.length + 1) uc3 := by rw [hu3]; simp [Fm.members]
        subst hu3'
        rw [show 2 * S0.length = S0.length * 2 by omega] at d0 d1 f0 f1
        have d0' : wc.cell? ⟨g, S0.length * 2, none⟩ = some (.int .u8 c) := d0
        have HH := Lib.hid hH
        have HNH := Lib.hid hndH
        have HTOP : Hid (Hold wc (w.heap.size + 2) (.slice ua3 (acc.length + 1) uc3) (acc ++ [t]) b2) := htop
        have HND3 := Lib.hid hnd3
        have HPOP := Lib.hid hpop
        have hcap : S0.length + 1 ≤ uc := by
          obtain ⟨V, h1, _⟩ := hH.row
          rcases h1.2 with ⟨h, _⟩ | ⟨g', cap, cur, h, _, _, h2, _⟩
          · cases h
          · simp only [Value.slice.injEq] at h
            rw [hlen2] at h2
            omega
        have HOPS : Hid (∀ f ∈ S0 ++ [Fm.mk c (acc ++ [t])], openC f.sign = true) := fun f hf => by
          rcases List.mem_append.1 hf with h | h
          · exact hop0.out f h
          · have e : f = .mk c (acc ++ [t]) := by simpa using h
            rw [e]; exact hoc.out
        have HFEW : Hid (∀ f ∈ S0 ++ [Fm.mk c (acc ++ [t])], f.members.length + 1 ≤ k) := fun f hf => by
          rcases List.mem_append.1 hf with h | h
          · have := hfw.out.2.2 f h; omega
          · have e : f = .mk c (acc ++ [t]) := by simpa using h
            rw [e]; show (acc ++ [t]).length + 1 ≤ k; have := hfw.out.2.1; rw [List.length_append, List.length_singleton]; omega
        have HBeg2 : Hid (¬ (k < s.size ∧ byteAt s k = closeC c ∧ 2 ≤ (acc ++ [t]).length) → ∀ a' nq, RfAct s w (.slice (some ⟨g, 0, none⟩) (S0.length + 1) uc) k a' → RfJ s w R 0 a' (wc.drewN nq) ∧ RfMu s 0 a' (wc.drewN nq) < M) := fun h a' nq ha => by
          refine ⟨.inl ⟨rfl, S0 ++ [.mk c (acc ++ [t])], k, t.members.length, cap0, t.sign, a0, some ⟨g, 0, none⟩, uc, bs', by rw [hlen2]; exact ha, ⟨Bdrew hL nq, kr, kf, by rw [hlen2]; exact HH.out.same (fun _ _ => rfl), HOPS.out, ⟨by rw [hlen2]; have := hfw.out.1; omega, HFEW.out⟩, HKB.out⟩, HNH.out, ?_⟩, ?_⟩
          · rw [stk_snoc, ← finF_begin h]; exact HR2.out
          · obtain ⟨u1, u5, u8, u9, u10, u11, u12, u13, u14, u15, u16, u17, u18, u19, u20, u21, u22, u23, u24, u25, u26, u27, u28, u29, u30, u31, u32, u33, u34, u35, u36, u37, u38, u39, u40, u41, u42, u43, u44, u45, u46, u47, u48, u49, u50, u51, u52, u53, u54, u55, u56, u57, u58, u59, u60, u61, u62, u63, u64, u65, u66, u67, u68, u69, u70, u71, u72, u73, u74, u75, u76, u77, u78, u79, u80, u81, u82, u83, u84, u85, u86, u87, u88, u89, u90, u91, u92, u93, u94, u95, u96, u97, u98, u99, u100, u101, rfl⟩ := ha
            show 2 * (s.size - ((k : Int)).toNat) + 0 < M
            have := HM.out
            omega
        have HCLS := Lib.hid (fun w => closingOf_any c w hoc.out (d := closeC c) rfl)
        have hm0 : (0 : Int) ≤ (acc.length : Int) := by omega
        clear d0 htop hnd3 hmem3 hpop hH hndH hu3
        have hact : ∀ a', RfAct s w (.slice (some ⟨g, 0, none⟩) (S0.length + 1) uc) k a' → RfAct s w (.slice (some ⟨g, 0, none⟩) (S0.length + 1) uc) k a' := fun _ h => h
        by_cases hk : k = s.size
        · have q : ((k : Int) == (s.size : Int)) = true := by simp [hk]
          have HNo : Hid (¬ (k < s.size ∧ byteAt s k = closeC c ∧ 2 ≤ (acc ++ [t]).length)) := fun h => by omega
          go_upto_region 19 with fail
          go_quiet ((go_at_call 65; exact Calls.quiet_of_same ((HCLS.out _).mono fun _ _ h => ⟨h.1, h.2.symm⟩)))
          go_wp2
          refine wp_goto ?_
          refine HBeg2.out HNo.out _ nq ?_
          unfold RfAct
          (repeat (apply Exists.intro))
          rfl
        · have hlt : k < s.size := by have := HKB.out; omega
          have q : ((k : Int) == (s.size : Int)) = false := by simp; omega
          have hi0 : (0 : Int) ≤ (k : Int) := by omega
          have hi1 : (k : Int) < (s.size : Int) := by omega
          have hb := byteAt_eq s k hlt
          by_cases hcl : byteAt s k = closeC c
          · have q1 : ((s[k].toNat : Int) != closeC c) = false := by rw [← hb, hcl]; simp
            by_cases h2 : 2 ≤ (acc ++ [t]).length
            · have hac : 1 ≤ acc.length := by simpa using h2
              have q2 : decide ((acc.length : Int) + 1 < 2) = false := decide_eq_false (by omega)
              have q3 : decide (((acc.length + 1 : Nat) : Int) < 2) = false := decide_eq_false (by omega)
              have HFC : Hid (R = finF (byteAt s) s.size (stk S0) (.mk c (acc ++ [t])) (k + 1)) := HR2.out.trans (finF_close hlt hcl h2)
              have HK1 : Hid ((k : Int) + 1 ≤ 9223372036854775807) := by have := HS.out; unfold Hid; omega
              clear hb hcl h2 hk HBeg2 HR2
              go_upto_region 19 with fail
              go_quiet ((go_at_call 65; exact Calls.quiet_of_same ((HCLS.out _).mono fun _ _ h => ⟨h.1, h.2.symm⟩)))
              go_upto_region 20 with fail
              have e0 : (wc.drewN nq).cell? ⟨g, S0.length * 2, none⟩ = some (.int .u8 c) := d0'
              have e1 : (wc.drewN nq).cell? ⟨g, S0.length * 2 + 1, none⟩ = some (.slice ua3 (acc.length + 1) uc3) := d1
              have hs0 : (0 : Int) ≤ (S0.length : Int) := by omega
              have hs1 : (S0.length : Int) ≤ (uc : Int) := by omega
              have hw1 : IntKind.i64.wrap ((S0.length : Int) + 1 - 1) = (S0.length : Int) := by rw [IntWalk.i64_in _ (by omega)]; omega
              have HFAR : Hid (∀ (o : Nat) (x y : Value), (((wc.drewN (nq + 1)).setCell ⟨w.heap.size + 1, 0, none⟩ x).setCell ⟨w.heap.size + 1, 1, none⟩ y).cell? ⟨g, o, none⟩ = wc.cell? ⟨g, o, none⟩) := fun o x y => by
                rw [World.cell?_setCell_other _ _ _ _ (by simp <;> omega), World.cell?_setCell_other _ _ _ _ (by simp <;> omega)]
                rfl
              have hw2 : IntKind.i64.wrap (S0.length : Int) = (S0.length : Int) := by rw [IntWalk.i64_in _ (by omega)]
              have hs2 : S0.length ≤ uc := by omega
              go_region_held3 (fun wx => wx.cell? ⟨g, S0.length * 2, none⟩ = some (.int .u8 c) ∧ wx.cell? ⟨g, S0.length * 2 + 1, none⟩ = some (.slice ua3 (acc.length + 1) uc3)) (first | exact ⟨d0', d1⟩ | exact ⟨(HFAR.out _ _ _).trans d0', (HFAR.out _ _ _).trans d1⟩) (fail)
              go_wp2_with fail
              refine wp_goto ?_
              show RfJ s w R 1 _ _ ∧ _ < M
              have hl2 : (acc ++ [t]).length = acc.length + 1 := by simp
              refine ⟨.inr ⟨rfl, S0, .mk c (acc ++ [t]), k + 1, uc3, ua3, some ⟨g, 0, none⟩, uc, g :: b1, b2, ?_, ⟨?_, ?_, ?_, ?_, hop0.out, ⟨by have := hfw.out.1; omega, fun f h => by have := hfw.out.2.2 f h; omega⟩, hlt⟩, ?_, HND3.out, ?_, HFC.out⟩, ?_⟩
              · unfold RfAct
                (repeat (apply Exists.intro))
                rfl
              · exact ((Bdrew hL _).setCell (p := ⟨w.heap.size + 1, 0, none⟩) (by simp) _).setCell (p := ⟨w.heap.size + 1, 1, none⟩) (by simp) _
              · have kr' : C2 (wc.drewN (nq + 1)) w.heap.size (.int .u8 0) (.slice none 0 0) := kr
                exact (kr'.set (w.heap.size + 1) 0 (.int .u8 c) (by omega)).set (w.heap.size + 1) 1 (.slice ua3 (acc.length + 1) uc3) (by omega)
              · have kf' : C2 (wc.drewN (nq + 1)) (w.heap.size + 1) (.int .u8 t.sign) (.slice a0 t.members.length cap0) := kf
                show C2 _ _ (.int .u8 c) (.slice ua3 (acc ++ [t]).length uc3)
                rw [hl2]
                exact kf'.fill (.int .u8 c) (.slice ua3 (acc.length + 1) uc3)
              · have hp' : Hold (wc.drewN (nq + 1)) (w.heap.size + 2) (.slice (some ⟨g, 0, none⟩) S0.length uc) S0 (g :: b1) := HPOP.out.same (fun _ _ => rfl)
                exact (hp'.setBox ⟨w.heap.size + 1, 0, none⟩ (.int .u8 c) (by simp)).setBox ⟨w.heap.size + 1, 1, none⟩ (.slice ua3 (acc.length + 1) uc3) (by simp)
              · have ht' : Hold (wc.drewN (nq + 1)) (w.heap.size + 2) (.slice ua3 (acc.length + 1) uc3) (acc ++ [t]) b2 := HTOP.out.same (fun _ _ => rfl)
                show Hold _ _ (.slice ua3 (acc ++ [t]).length uc3) (acc ++ [t]) b2
                rw [hl2]
                exact (ht'.setBox ⟨w.heap.size + 1, 0, none⟩ (.int .u8 c) (by simp)).setBox ⟨w.heap.size + 1, 1, none⟩ (.slice ua3 (acc.length + 1) uc3) (by simp)
              · show (acc ++ [t]).length ≤ k + 1
                rw [hl2]; have := hfw.out.2.1; omega
              · show 2 * (s.size - ((k : Int) + 1).toNat) + 1 < M
                have := HM.out
                omega
            · have q2 : decide ((acc.length : Int) + 1 < 2) = true := decide_eq_true (by have : ¬ 1 ≤ acc.length := by simpa using h2
                                                                                         omega)
              have q3 : decide (((acc.length + 1 : Nat) : Int) < 2) = true := decide_eq_true (by have : ¬ 1 ≤ acc.length := by simpa using h2
                                                                                                 omega)
              have HNo : Hid (¬ (k < s.size ∧ byteAt s k = closeC c ∧ 2 ≤ (acc ++ [t]).length)) := fun h => h2 h.2.2
              clear hb hcl h2 hk
              go_upto_region 19 with fail
              go_quiet ((go_at_call 65; exact Calls.quiet_of_same ((HCLS.out _).mono fun _ _ h => ⟨h.1, h.2.symm⟩)))
              go_wp2
              refine wp_goto ?_
              refine HBeg2.out HNo.out _ nq ?_
              unfold RfAct
              (repeat (apply Exists.intro))
              rfl
          · have q1 : ((s[k].toNat : Int) != closeC c) = true := by rw [← hb]; simpa using hcl
            have HNo : Hid (¬ (k < s.size ∧ byteAt s k = closeC c ∧ 2 ≤ (acc ++ [t]).length)) := fun h => hcl h.2.1
            clear hb hcl hk
            go_upto_region 19 with fail
            go_quiet ((go_at_call 65; exact Calls.quiet_of_same ((HCLS.out _).mono fun _ _ h => ⟨h.1, h.2.symm⟩)))
            go_wp2
            refine wp_goto ?_
            refine HBeg2.out HNo.out _ nq ?_
            unfold RfAct
            (repeat (apply Exists.intro))
            rfl
  · intro HEnd M a w' hJ hM
    have hB : RfB s w R a w' := by
      rcases hJ with ⟨_, h⟩ | ⟨h, _⟩
      · exact h
      · cases h
    clear hJ
    obtain ⟨S, k, n0, cap0, c0, a0, ua, uc, bs, ⟨u1, u5, u8, u9, u10, u11, u12, u13, u14, u15, u16, u17, u18, u19, u20, u21, u22, u23, u24, u25, u26, u27, u28, u29, u30, u31, u32, u33, u34, u35, u36, u37, u38, u39, u40, u41, u42, u43, u44, u45, u46, u47, u48, u49, u50, u51, u52, u53, u54, u55, u56, u57, u58, u59, u60, u61, u62, u63, u64, u65, u66, u67, u68, u69, u70, u71, u72, u73, u74, u75, u76, u77, u78, u79, u80, u81, u82, u83, u84, u85, u86, u87, u88, u89, u90, u91, u92, u93, u94, u95, u96, u97, u98, u99, u100, u101, rfl⟩, hm, hnd, hR⟩ := hB
    obtain ⟨hL, kr, kf, hold, hop, hfew, hkb⟩ := hm
    have HR1 := Lib.hid hR
    have HM : Hid (2 * (s.size - k) ≤ M) := hM
    have HH := Lib.hid hold
    have HND := Lib.hid hnd
    have HOP := Lib.hid hop
    have HFW := Lib.hid hfew
    clear hR hM hold hnd hop hfew HR
    by_cases hk : k = s.size
    · have q : ((k : Int) == (s.size : Int)) = true := by simp [hk]
      have HN : Hid (R = none) := HR1.out.trans (begF_end (by omega))
      have kr2 := (kr.put0 (.int .u8 0)).put1 (.slice none 0 0)
      have hL2 := (hL.setCell (p := ⟨w.heap.size, 0, none⟩) (Nat.le_refl _) (.int .u8 0)).setCell (p := ⟨w.heap.size, 1, none⟩) (Nat.le_refl _) (.slice none 0 0)
      clear hk HR1 hkb HEnd
      go_wp2
      simp only [jumpN]
      refine bodyPost_ret (v := .tuple #[.agg #[.int .u8 0, .slice none 0 0], .bool false]) (by simp [results, Tryd.results30, go_sem, *]) rfl ?_
      exact ⟨0, none, 0, 0, false, rfl, by rw [HN.out]; rfl, (fun t h => by rw [HN.out] at h; cases h), hL2⟩
    · have hlt : k < s.size := by omega
      have q : ((k : Int) == (s.size : Int)) = false := by simp; omega
      have hb := byteAt_eq s k hlt
      have hbd := byteAt_bd s k
      rw [hb] at hbd
      have HB := Lib.hid hb
      have kr1 := kr
      have kf2 := (kf.put0 (.int .u8 (s[k].toNat : Int))).put1 (.slice none 0 0)
      have kr2 := (kr.set (w.heap.size + 1) 0 (.int .u8 (s[k].toNat : Int)) (by omega)).set (w.heap.size + 1) 1 (.slice none 0 0) (by omega)
      have hL2 := (hL.setCell (p := ⟨w.heap.size + 1, 0, none⟩) (by simp) (.int .u8 (s[k].toNat : Int))).setCell (p := ⟨w.heap.size + 1, 1, none⟩) (by simp) (.slice none 0 0)
      have HH2 := Lib.hid ((HH.out.setBox ⟨w.heap.size + 1, 0, none⟩ (.int .u8 (s[k].toNat : Int)) (by simp)).setBox ⟨w.heap.size + 1, 1, none⟩ (.slice none 0 0) (by simp))
      have hk1 : (k : Int) + 1 ≤ 9223372036854775807 := by have := HS.out; omega
      clear hk hb HH
      go_upto_region 10 with fail
      clear kf kr kr1 hL
      generalize hww : (w'.setCell ⟨w.heap.size + 1, 0, none⟩ (.int .u8 (s[k].toNat : Int))).setCell ⟨w.heap.size + 1, 1, none⟩ (.slice none 0 0) = wx at *
      clear hww
      cases ho : openC (s[k].toNat : Int)
      · have HO := Lib.hid ho
        have HK : Hid (((k : Int) + 1) = ((k + 1 : Nat) : Int)) := by unfold Hid; omega
        have kr3 := (kr2.put0 (.int .u8 0)).put1 (.slice none 0 0)
        have hL3 := (hL2.setCell (p := ⟨w.heap.size, 0, none⟩) (Nat.le_refl _) (.int .u8 0)).setCell (p := ⟨w.heap.size, 1, none⟩) (Nat.le_refl _) (.slice none 0 0)
        cases hl : letC (s[k].toNat : Int)
        · cases h48 : ((s[k].toNat : Int) != 48)
          · have HF : Hid (begF (byteAt s) s.size (stk S) k = finF (byteAt s) s.size (stk S) (.mk (s[k].toNat : Int) []) (k + 1)) := by
              unfold Hid; rw [begF_leaf hlt (by rw [HB.out, leafC_eq]; simp at h48; simp [h48]), HB.out]
            have HLt := Lib.hid hl
            clear ho q hl kr3 hL3
            go_wp2_with (first | (go_at_call 63; refine (isBracket_no _ _ HO.out).mono ?_; rintro e w' ⟨rfl, rfl⟩) | (go_at_call 64; refine (isContactLetter_any _ _ hbd.1 hbd.2 HLt.out).mono ?_; rintro e w' ⟨rfl, rfl⟩))
            refine wp_label ?_
            refine ‹∀ a w, Code.wp _ _ _ a w → _› _ _ (HEnd M _ _ (.inr ⟨rfl, S, .mk (s[k].toNat : Int) [], k + 1, 0, none, ua, uc, bs, [], ?_, ⟨hL2, kr2, kf2, HH2.out, HOP.out, ⟨by have := HFW.out.1; omega, fun f h => by have := HFW.out.2 f h; omega⟩, hlt⟩, Hold.nil _ _, by rw [List.append_nil]; exact HND.out, Nat.zero_le _, HR1.out.trans HF.out⟩) ?_)
            · unfold RfAct
              (repeat (apply Exists.intro))
              rfl
            · show 2 * (s.size - ((k : Int) + 1).toNat) + 1 ≤ M
              have := HM.out
              omega
          · cases h49 : ((s[k].toNat : Int) != 49)
            · have HF : Hid (begF (byteAt s) s.size (stk S) k = finF (byteAt s) s.size (stk S) (.mk (s[k].toNat : Int) []) (k + 1)) := by
                unfold Hid; rw [begF_leaf hlt (by rw [HB.out, leafC_eq]; simp at h49; simp [h49]), HB.out]
              have HLt := Lib.hid hl
              clear ho q hl kr3 hL3
              go_wp2_with (first | (go_at_call 63; refine (isBracket_no _ _ HO.out).mono ?_; rintro e w' ⟨rfl, rfl⟩) | (go_at_call 64; refine (isContactLetter_any _ _ hbd.1 hbd.2 HLt.out).mono ?_; rintro e w' ⟨rfl, rfl⟩))
              refine wp_label ?_
              refine ‹∀ a w, Code.wp _ _ _ a w → _› _ _ (HEnd M _ _ (.inr ⟨rfl, S, .mk (s[k].toNat : Int) [], k + 1, 0, none, ua, uc, bs, [], ?_, ⟨hL2, kr2, kf2, HH2.out, HOP.out, ⟨by have := HFW.out.1; omega, fun f h => by have := HFW.out.2 f h; omega⟩, hlt⟩, Hold.nil _ _, by rw [List.append_nil]; exact HND.out, Nat.zero_le _, HR1.out.trans HF.out⟩) ?_)
              · unfold RfAct
                (repeat (apply Exists.intro))
                rfl
              · show 2 * (s.size - ((k : Int) + 1).toNat) + 1 ≤ M
                have := HM.out
                omega
            · have HN : Hid (R = none) := HR1.out.trans (begF_none (by rw [HB.out, leafC_eq, hl]; simp at h48 h49; simp [h48, h49]) (by rw [HB.out]; exact ho))
              have HLt := Lib.hid hl
              clear ho q hl HR1
              go_wp2_with (first | (go_at_call 63; refine (isBracket_no _ _ HO.out).mono ?_; rintro e w' ⟨rfl, rfl⟩) | (go_at_call 64; refine (isContactLetter_any _ _ hbd.1 hbd.2 HLt.out).mono ?_; rintro e w' ⟨rfl, rfl⟩))
              simp only [jumpN]
              refine bodyPost_ret (v := .tuple #[.agg #[.int .u8 0, .slice none 0 0], .bool false]) (by simp [results, Tryd.results30, go_sem, *]) rfl ?_
              exact ⟨0, none, 0, 0, false, rfl, by rw [HN.out]; rfl, (fun t h => by rw [HN.out] at h; cases h), hL3⟩
        · have HF : Hid (begF (byteAt s) s.size (stk S) k = finF (byteAt s) s.size (stk S) (.mk (s[k].toNat : Int) []) (k + 1)) := by
            unfold Hid; rw [begF_leaf hlt (by rw [HB.out, leafC_eq]; rw [hl]; rfl), HB.out]
          have HLt := Lib.hid hl
          clear ho q hl kr3 hL3
          go_wp2_with (first | (go_at_call 63; refine (isBracket_no _ _ HO.out).mono ?_; rintro e w' ⟨rfl, rfl⟩) | (go_at_call 64; refine (isContactLetter_any _ _ hbd.1 hbd.2 HLt.out).mono ?_; rintro e w' ⟨rfl, rfl⟩))
          refine wp_label ?_
          refine ‹∀ a w, Code.wp _ _ _ a w → _› _ _ (HEnd M _ _ (.inr ⟨rfl, S, .mk (s[k].toNat : Int) [], k + 1, 0, none, ua, uc, bs, [], ?_, ⟨hL2, kr2, kf2, HH2.out, HOP.out, ⟨by have := HFW.out.1; omega, fun f h => by have := HFW.out.2 f h; omega⟩, hlt⟩, Hold.nil _ _, by rw [List.append_nil]; exact HND.out, Nat.zero_le _, HR1.out.trans HF.out⟩) ?_)
          · unfold RfAct
            (repeat (apply Exists.intro))
            rfl
          · show 2 * (s.size - ((k : Int) + 1).toNat) + 1 ≤ M
            have := HM.out
            omega
      · have HO := Lib.hid ho
        have HBG : Hid (begF (byteAt s) s.size (stk S) k = begF (byteAt s) s.size (stk (S ++ [.mk (s[k].toNat : Int) []])) (k + 1)) := by
          unfold Hid; rw [stk_snoc, begF_open hlt (by rw [HB.out]; exact ho), HB.out]
        obtain ⟨V, hV, hVin, _⟩ := HH2.out.row
        have HV := Lib.hid hV
        have hUlt := World.ownsRow.lt hV
        have hxs := kf2.2.2.2.2
        have HSL : Hid (S.length ≤ 80) := by unfold Hid; have := HFW.out.1; have := HS.out; omega
        have hsep0 : Hid ((Value.slice ua S.length uc).ownBlock ≠ some w.heap.size) := fun e => by have := (hUlt _ e).1; omega
        have hsep1 : Hid ((Value.slice ua S.length uc).ownBlock ≠ some (w.heap.size + 1)) := fun e => by have := (hUlt _ e).1; omega
        have hfrom : Hid (∀ q, (Value.slice ua S.length uc).ownBlock = some q → w.heap.size + 2 ≤ q) := fun q e => (hUlt _ e).1
        have HK : Hid (wrap64 ((k : Int) + 1) = ((k + 1 : Nat) : Int)) := by unfold Hid; rw [IntWalk.wrap64_in _ (by omega)]; rfl
        clear ho hV hVin hUlt q
        go_upto_region 12 with (go_at_call 63; refine (isBracket_yes _ _ HO.out).mono ?_; rintro e w' ⟨rfl, rfl⟩)
        go_wp2_with (at_builtin; refine wpList_append_own_at _ rfl _ _ 48 rfl (w.heap.size + 2) 50 i0 (.agg #[.int .u8 0, .slice none 0 0]) 2 32 Tryd.underlying48 hi hz0 hz1 hz2 rfl (by decide) (.slice ua S.length uc) _ _ rfl (World.ownsRow.alloc HV.out _) ⟨wx.heap.size, 0, none⟩ 1 1 [.int .u8 (s[k].toNat : Int), .slice none 0 0] rfl rfl (World.news_of_block (cs := #[.int .u8 (s[k].toNat : Int), .slice none 0 0]) (t := 50) (fr := (0, 0)) (heap_alloc_new wx _)) (by simp [Value.oneCell']) (by have := HSL.out; unfold maxLen; omega) (by have := HSL.out; omega) (by simp; omega) ?_; intro v1 w2 hown1 hgrow1 hnil1 hat1)
        obtain ⟨g1, cap1, rfl⟩ : ∃ g cap, v1 = .slice (some ⟨g, 0, none⟩) (S.length + 1) cap := by
          rcases hown1.2 with ⟨_, h⟩ | ⟨g, cap, cur, rfl, _⟩
          · omega
          · exact ⟨g, cap, rfl⟩
        have hlen : (S ++ [Fm.mk (s[k].toNat : Int) []]).length = S.length + 1 := by simp
        have kr3 := C2.grown (kr2.alloc (.cells #[.int .u8 (s[k].toNat : Int), .slice none 0 0] 50)) hgrow1 hsep0.out
        have kf3 := C2.grown (kf2.alloc (.cells #[.int .u8 (s[k].toNat : Int), .slice none 0 0] 50)) hgrow1 hsep1.out
        have hL3 := (hL2.alloc (by omega) (.cells #[.int .u8 (s[k].toNat : Int), .slice none 0 0] 50)).grown hgrow1 (by rw [World.size_alloc]; omega) (fun q e => by have := hfrom.out q e; omega)
        obtain ⟨bs2, hH3, _, hnd3⟩ := Hold.grow (t := .mk (s[k].toNat : Int) []) (HH2.out.keep ((Below.refl _ _).alloc (Nat.le_refl _) (.cells #[.int .u8 (s[k].toNat : Int), .slice none 0 0] 50))) (Hold.nil _ _) (by rw [List.append_nil]; exact HND.out) hgrow1 (by rcases hat1 with h | h; exact .inl h; exact .inr ⟨_, h, Nat.le_refl _⟩) (World.ownsRow.alloc HV.out _) hown1
        refine wp_goto ?_
        show RfJ s w R 0 _ _ ∧ _ < M
        refine ⟨.inl ⟨rfl, S ++ [.mk (s[k].toNat : Int) []], k + 1, 0, 0, (s[k].toNat : Int), none, some ⟨g1, 0, none⟩, cap1, bs2, ?_, ⟨hL3, kr3, kf3, by rw [hlen]; exact hH3, ?_, ⟨by rw [hlen]; have := HFW.out.1; omega, ?_⟩, hlt⟩, hnd3, HR1.out.trans HBG.out⟩, ?_⟩
        · unfold RfAct
          rw [hlen]
          (repeat (apply Exists.intro))
          rfl
        · intro f hf
          rcases List.mem_append.1 hf with h | h
          · exact HOP.out f h
          · have e : f = .mk (s[k].toNat : Int) [] := by simpa using h
            rw [e]; exact HO.out
        · intro f hf
          rcases List.mem_append.1 hf with h | h
          · have := HFW.out.2 f h; omega
          · have e : f = .mk (s[k].toNat : Int) [] := by simpa using h
            rw [e]; show 0 + 1 ≤ k + 1; omega
        · show 2 * (s.size - ((k : Int) + 1).toNat) + 0 < M
          have := HM.out
          omega
  · intro HBeg
    refine ⟨2 * s.size, ?_⟩
    go_wp2
    refine wp_label ?_
    refine ‹∀ a w, Code.wp _ _ _ a w → _› _ _ (HBeg _ _ _ ?_ ?_)
    · refine .inl ⟨rfl, [], 0, 0, 0, 0, none, none, 0, [], ?_, ⟨?_, ?_, ?_, Hold.nil _ _, (fun f h => by cases h), ⟨Nat.zero_le _, (fun f h => by cases h)⟩, Nat.zero_le _⟩, List.nodup_nil, HR.out.symm⟩
      · unfold RfAct
        (repeat (apply Exists.intro))
        rfl
      · exact ((Below.refl _ _).alloc (Nat.le_refl _) _).alloc (by simp) _
      · exact (C2.here w (.int .u8 0) (.slice none 0 0) 50).alloc _
      · have := C2.here (w.alloc (.cells #[.int .u8 0, .slice none 0 0] 50)) (.int .u8 0) (.slice none 0 0) 50
        rw [World.size_alloc] at this
        exact this
    · exact Nat.le_refl _

end Go.Proofs.YtohmhiodmaahfaaDoor
