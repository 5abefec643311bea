/- The walks of needsBound and Safe. The law's first steps: two rules. The walks of Rules, Defined and begun. Rules that were read are such as may be printed: in plain mathematics. The reference's binds: its contract. A rule's head ahead of its body, in memory. -/
import Derived.Test.YtjejpjpdfdcnlaaPart10
import Derived.Lib.QuietBelow
import Derived.Laws.OwnMore
namespace Go.Proofs.Ytjejpjpdfdcnlaa.Ck
open Go.RowKit
open Vl (Tm Ts Fr)
open Sy

def needK (k : Int) : Bool := decide (2 ≤ k) && decide (k ≤ 6)
theorem needs_any (k : Int) (w : World) : Calls Try.prog 28 #[.int .i64 k] w fun e w' => e = .returned (.bool (needK k)) ∧ w' = w := by
  by_cases h2 : k = 2
  · subst h2
    go_enter Try.func28, Try.ntmps28
    go_wp2
    go_ret
    exact ⟨rfl, rfl⟩
  by_cases h3 : k = 3
  · subst h3
    go_enter Try.func28, Try.ntmps28
    go_wp2
    go_ret
    exact ⟨rfl, rfl⟩
  by_cases h4 : k = 4
  · subst h4
    go_enter Try.func28, Try.ntmps28
    go_wp2
    go_ret
    exact ⟨rfl, rfl⟩
  by_cases h5 : k = 5
  · subst h5
    go_enter Try.func28, Try.ntmps28
    go_wp2
    go_ret
    exact ⟨rfl, rfl⟩
  by_cases h6 : k = 6
  · subst h6
    go_enter Try.func28, Try.ntmps28
    go_wp2
    go_ret
    exact ⟨rfl, rfl⟩
  · have hn : needK k = false := by
      unfold needK
      rw [Bool.and_eq_false_iff]
      by_cases hk : 2 ≤ k
      · right; simp; omega
      · left; simpa using hk
    have g2 : (k == 2) = false := by simpa using h2
    have g3 : (k == 3) = false := by simpa using h3
    have g4 : (k == 4) = false := by simpa using h4
    have g5 : (k == 5) = false := by simpa using h5
    have g6 : (k == 6) = false := by simpa using h6
    rw [hn]
    go_enter Try.func28, Try.ntmps28
    go_wp2
    go_ret
    exact ⟨rfl, rfl⟩

/-- Is a rule safe? -/
def safeR (q : Rul) : Bool := (varsT q.1.2.2).all (inS (boundL q.2)) && q.2.all fun l => !needK l.1 || (varsT l.2.2).all (inS (boundL q.2))
structure FewR (q : Rul) : Prop where
  head : q.1.2.2.length ≤ 1000000 ∧ ∀ t ∈ q.1.2.2, t.2.1.size ≤ maxLen
  body : Few q.2

theorem all_take {α : Type} {p : α → Bool} {ls : List α} {k : Nat} (h : k < ls.length) : (ls.take (k + 1)).all p = ((ls.take k).all p && p ls[k]) := by
  rw [List.take_succ_eq_append_getElem h, List.all_append]
  simp
theorem all_false {α : Type} {p : α → Bool} {ls : List α} {k : Nat} (h : k < ls.length) (hp : p ls[k] = false) : ls.all p = false := by
  rw [List.all_eq_false]
  exact ⟨_, List.getElem_mem h, by rw [hp]; decide⟩

set_option maxRecDepth 10000 in
set_option maxHeartbeats 4000000 in
theorem safe_any {w : World} {q : Rul} {y : Value} (h : isRul w q y) (hf : FewR q) :
    Calls Try.prog 11 #[y] w fun e w' => e = .returned (.bool (safeR q)) ∧ Below w.heap.size w w' := by
  obtain ⟨⟨hk, hnm, ht⟩, ls⟩ := q
  obtain ⟨va, vb, rfl, hva, hvb⟩ := h
  simp only at hva hvb ⊢
  obtain ⟨_, aoa, capa, rfl⟩ := own_len hva
  obtain ⟨aob, capb, rfl⟩ := isLs_shape hvb
  have hlen := hf.body.len
  have HF := hide hf
  have HVA := hide hva
  have HVB := hide hvb
  have HC := hide (isLs_cells hvb).2
  have hx0 := Lx.below_box w (.cells #[.int .i64 hk, .string hnm, .slice aoa ht.length capa, .slice aob ls.length capb] 30)
  have HB0 := hide hx0
  have HBd := hide (callsIn_wide.1 (boundBy_in 3 (Nat.le_refl _) ls _ (w.alloc (.cells #[.int .i64 hk, .string hnm, .slice aoa ht.length capa, .slice aob ls.length capb] 30)) (isLs_below hvb hx0) hf.body))
  have B0 := hide (Bx.new w #[.int .i64 hk, .string hnm, .slice aoa ht.length capa, .slice aob ls.length capb] 30)
  clear hva hvb hf hx0
  go_enter Try.func11, Try.ntmps11
  go_wp2_with fail
  refine Calls.mono HBd.out ?_
  rintro e w1 ⟨rfl, ⟨D, hown, hset⟩, hb1⟩
  have HB1 := hide (HB0.out.trans (hb1.mono HB0.out.size))
  have B1 := hide (B0.out.below hb1)
  have HO := hide hown
  have HS := hide hset
  generalize hbk : (w.alloc (.cells #[.int .i64 hk, .string hnm, .slice aoa ht.length capa, .slice aob ls.length capb] 30)).heap.size = b at *
  have HA : Hid (∀ (ts : List Tm) (v : Value) (W : World), Below w1.heap.size w1 W → isTs W ts v → ts.length ≤ 1000000 → (∀ t ∈ ts, t.2.1.size ≤ maxLen) → Calls Try.prog 27 #[.map (some b), v] W fun e W' => e = .returned (.bool ((varsT ts).all (inS (boundL ls)))) ∧ Below W.heap.size W W') := fun ts v W hW hv hl hsz =>
    callsIn_wide.1 (allIn_in 3 (Nat.le_refl _) b _ D _ HS.out ts v W (ownsMap_fr HO.out (Fr.of_below (F := fun _ => False) hW) id) hv hl hsz)
  obtain ⟨⟨c0, c1, c2, c3⟩, _, _, _, _⟩ := B1.out.four
  clear hown hset hb1 HBd HB0 B0 HO HS
  have HA1 := hide (HA.out ht _ w1 (Below.refl _ _) (isTs_below HVA.out HB1.out) HF.out.head.1 HF.out.head.2)
  have HSR : Hid (safeR ((hk, hnm, ht), ls) = ((varsT ht).all (inS (boundL ls)) && ls.all fun l => !needK l.1 || (varsT l.2.2).all (inS (boundL ls)))) := rfl
  obtain ⟨p, hp⟩ : ∃ p : Sy.Lit → Bool, p = fun l => !needK l.1 || (varsT l.2.2).all (inS (boundL ls)) := ⟨_, rfl⟩
  rw [← hp] at HSR
  have HP := hide hp
  clear hp
  go_wp2_with fail
  refine Calls.mono HA1.out ?_
  rintro e w2 ⟨rfl, hb2⟩
  have HB2 := hide (HB1.out.trans (hb2.mono HB1.out.size))
  have HB12 := hide hb2
  have B2 := hide (B1.out.below hb2)
  clear c0 c1 c2 c3 hb2 HA1 B1
  obtain ⟨⟨c0, c1, c2, c3⟩, _, _, _, _⟩ := B2.out.four
  cases hh : (varsT ht).all (inS (boundL ls))
  · rw [hh, Bool.false_and] at HSR
    go_wp2_with fail
    go_ret
    rw [HSR.out]
    exact ⟨rfl, HB2.out⟩
  · rw [hh, Bool.true_and] at HSR
    clear hh
    go_wp2_with fail
    go_loopw [18] (fun iv wr => ∃ i : Nat, iv = .int .i64 i ∧ i ≤ ls.length ∧ Hid ((ls.take i).all p = true) ∧ Hid (Below w.heap.size w wr) ∧ Hid (Below w1.heap.size w1 wr)) (fun iv _ => ls.length - (intOf iv).toNat)
    case atStart => exact ⟨0, rfl, Nat.zero_le _, rfl, HB2, HB12⟩
    case round =>
      obtain ⟨i, rfl, hi, HI, HBw, HB1w⟩ := hrel
      by_cases hlt : i < ls.length
      · have hltI : (i : Int) < (ls.length : Int) := by omega
        obtain ⟨g, rfl, hc⟩ := HC.out (by omega)
        obtain ⟨u, hu, k0, k1, k2⟩ := hc i hlt
        have k0 := cell_below' k0 HBw.out
        have k1 := cell_below' k1 HBw.out
        have k2 := cell_below' k2 HBw.out
        have HAT := hide (all_take (p := p) hlt)
        have HAF : Hid (p ls[i] = false → ls.all p = false) := fun hp => all_false hlt hp
        have hfa := HF.out.body.args _ (List.getElem_mem hlt)
        have HPP : Hid (p ls[i] = (!needK ls[i].1 || (varsT ls[i].2.2).all (inS (boundL ls)))) := by show _ = _; rw [HP.out]
        have HNB := hide (needs_any ls[i].1)
        obtain ⟨_, aou, capu, rfl⟩ := own_len hu
        have HAA : Hid (∀ W, Below wr.heap.size wr W → Calls Try.prog 27 #[.map (some b), .slice aou ls[i].2.2.length capu] W fun e W' => e = .returned (.bool ((varsT ls[i].2.2).all (inS (boundL ls)))) ∧ Below W.heap.size W W') := fun W hW =>
          HA.out ls[i].2.2 _ W (HB1w.out.trans (hW.mono HB1w.out.size)) (isTs_below hu (HBw.out.trans (hW.mono HBw.out.size))) hfa.1 hfa.2
        clear hc hu hfa c0 c1 c2 c3
        generalize ls[i] = l at *
        have hXb := hide fun o => Lx.below_box wr o
        cases hnk : needK l.1
        · rw [hnk] at HNB HPP
          simp only [Bool.not_false, Bool.true_or] at HPP
          go_wp2_with fail
          refine Calls.mono (HNB.out _) ?_
          rintro e w3 ⟨rfl, hw3⟩
          have hw3' := hw3.symm
          subst hw3'
          clear hw3
          go_wp2_with fail
          go_roundw
          case rel => exact ⟨i + 1, by go_num, by omega, by rw [HAT.out, HI.out, HPP.out]; rfl, HBw.out.trans ((hXb.out _).mono HBw.out.size), HB1w.out.trans ((hXb.out _).mono HB1w.out.size)⟩
          case measure => simp [intOf]; omega
        · rw [hnk] at HNB HPP
          simp only [Bool.not_true, Bool.false_or] at HPP
          go_wp2_with fail
          refine Calls.mono (HNB.out _) ?_
          rintro e w3 ⟨rfl, hw3⟩
          have hw3' := hw3.symm
          subst hw3'
          clear hw3
          go_wp2_with fail
          refine Calls.mono (HAA.out _ (hXb.out _)) ?_
          rintro e w4 ⟨rfl, hb4⟩
          have HB4 := hide (HBw.out.trans ((hXb.out _).trans (hb4.mono (hXb.out _).size) |>.mono HBw.out.size))
          have HB4' := hide (HB1w.out.trans ((hXb.out _).trans (hb4.mono (hXb.out _).size) |>.mono HB1w.out.size))
          clear hb4
          cases hq : (varsT l.2.2).all (inS (boundL ls))
          · rw [hq] at HPP
            go_wp2_with fail
            go_ret
            rw [HSR.out, HAF.out HPP.out]
            exact ⟨rfl, HB4.out⟩
          · rw [hq] at HPP
            go_wp2_with fail
            go_roundw
            case rel => exact ⟨i + 1, by go_num, by omega, by rw [HAT.out, HI.out, HPP.out]; rfl, HB4, HB4'⟩
            case measure => simp [intOf]; omega
      · have hltI : ¬ (i : Int) < (ls.length : Int) := by omega
        have hie : ls.take i = ls := by rw [show i = ls.length by omega, List.take_length]
        rw [hie] at HI
        clear hie
        go_wp2_with fail
        go_ret
        rw [HSR.out, HI.out]
        exact ⟨rfl, HBw.out⟩
end Go.Proofs.Ytjejpjpdfdcnlaa.Ck
namespace Go.Proofs.Ytjejpjpdfdcnlaa.Ck
open Go.RowKit
open Lx (Wd tx bs scanL scanL_nil scanL_cons blankN sizeL kindL scanAt)
open Vl (Tm Fr)
open Sy

theorem step_word (c : UInt8) (t : List UInt8) (a n k : Nat) (x r : List UInt8) (L : List Wd) (h1 : blankN c.toNat = false) (h2 : ¬ c.toNat = 37) (h3 : sizeL (c :: t) = n) (h4 : ¬ (n = 0 ∨ 16 < n)) (h5 : t.drop (n - 1) = r) (h6 : kindL (c :: t) = k) (h7 : (c :: t).take n = x) (h8 : scanL r (a + n) = some L) : scanL (c :: t) a = some ((k, x, a) :: L) := by
  rw [scanL_cons, if_neg (by rw [h1]; decide), if_neg h2, h3, if_neg h4, h5, h6, h7, h8]
  rfl
theorem step_blank (c : UInt8) (t : List UInt8) (a : Nat) (L : List Wd) (h1 : blankN c.toNat = true) (h8 : scanL t (a + 1) = some L) : scanL (c :: t) a = some L := by
  rw [scanL_cons, if_pos h1, h8]

theorem beg1 : scanL [112, 40, 88, 41, 32, 58, 45, 32, 113, 40, 88, 41, 44, 32, 33, 114, 40, 88, 41, 46, 32, 112, 40, 89, 41, 32, 58, 45, 32, 113, 40, 88, 41, 44, 32, 89, 32, 60, 32, 88, 46] 0 = some [(1, [112], 0), (4, [40], 1), (2, [88], 2), (4, [41], 3), (4, [58, 45], 5), (1, [113], 8), (4, [40], 9), (2, [88], 10), (4, [41], 11), (4, [44], 12), (4, [33], 14), (1, [114], 15), (4, [40], 16), (2, [88], 17), (4, [41], 18), (4, [46], 19), (1, [112], 21), (4, [40], 22), (2, [89], 23), (4, [41], 24), (4, [58, 45], 26), (1, [113], 29), (4, [40], 30), (2, [88], 31), (4, [41], 32), (4, [44], 33), (2, [89], 35), (4, [60], 37), (2, [88], 39), (4, [46], 40)] := by
  have s40 := step_word 46 [] 40 1 4 [46] _ _ (by decide) (by decide) (by decide) (by decide) rfl (by decide) rfl (scanL_nil 41)
  have s39 := step_word 88 [46] 39 1 2 [88] _ _ (by decide) (by decide) (by decide) (by decide) rfl (by decide) rfl s40
  have s38 := step_blank 32 [88, 46] 38 _ (by decide) s39
  have s37 := step_word 60 [32, 88, 46] 37 1 4 [60] _ _ (by decide) (by decide) (by decide) (by decide) rfl (by decide) rfl s38
  have s36 := step_blank 32 [60, 32, 88, 46] 36 _ (by decide) s37
  have s35 := step_word 89 [32, 60, 32, 88, 46] 35 1 2 [89] _ _ (by decide) (by decide) (by decide) (by decide) rfl (by decide) rfl s36
  have s34 := step_blank 32 [89, 32, 60, 32, 88, 46] 34 _ (by decide) s35
  have s33 := step_word 44 [32, 89, 32, 60, 32, 88, 46] 33 1 4 [44] _ _ (by decide) (by decide) (by decide) (by decide) rfl (by decide) rfl s34
  have s32 := step_word 41 [44, 32, 89, 32, 60, 32, 88, 46] 32 1 4 [41] _ _ (by decide) (by decide) (by decide) (by decide) rfl (by decide) rfl s33
  have s31 := step_word 88 [41, 44, 32, 89, 32, 60, 32, 88, 46] 31 1 2 [88] _ _ (by decide) (by decide) (by decide) (by decide) rfl (by decide) rfl s32
  have s30 := step_word 40 [88, 41, 44, 32, 89, 32, 60, 32, 88, 46] 30 1 4 [40] _ _ (by decide) (by decide) (by decide) (by decide) rfl (by decide) rfl s31
  have s29 := step_word 113 [40, 88, 41, 44, 32, 89, 32, 60, 32, 88, 46] 29 1 1 [113] _ _ (by decide) (by decide) (by decide) (by decide) rfl (by decide) rfl s30
  have s28 := step_blank 32 [113, 40, 88, 41, 44, 32, 89, 32, 60, 32, 88, 46] 28 _ (by decide) s29
  have s26 := step_word 58 [45, 32, 113, 40, 88, 41, 44, 32, 89, 32, 60, 32, 88, 46] 26 2 4 [58, 45] _ _ (by decide) (by decide) (by decide) (by decide) rfl (by decide) rfl s28
  have s25 := step_blank 32 [58, 45, 32, 113, 40, 88, 41, 44, 32, 89, 32, 60, 32, 88, 46] 25 _ (by decide) s26
  have s24 := step_word 41 [32, 58, 45, 32, 113, 40, 88, 41, 44, 32, 89, 32, 60, 32, 88, 46] 24 1 4 [41] _ _ (by decide) (by decide) (by decide) (by decide) rfl (by decide) rfl s25
  have s23 := step_word 89 [41, 32, 58, 45, 32, 113, 40, 88, 41, 44, 32, 89, 32, 60, 32, 88, 46] 23 1 2 [89] _ _ (by decide) (by decide) (by decide) (by decide) rfl (by decide) rfl s24
  have s22 := step_word 40 [89, 41, 32, 58, 45, 32, 113, 40, 88, 41, 44, 32, 89, 32, 60, 32, 88, 46] 22 1 4 [40] _ _ (by decide) (by decide) (by decide) (by decide) rfl (by decide) rfl s23
  have s21 := step_word 112 [40, 89, 41, 32, 58, 45, 32, 113, 40, 88, 41, 44, 32, 89, 32, 60, 32, 88, 46] 21 1 1 [112] _ _ (by decide) (by decide) (by decide) (by decide) rfl (by decide) rfl s22
  have s20 := step_blank 32 [112, 40, 89, 41, 32, 58, 45, 32, 113, 40, 88, 41, 44, 32, 89, 32, 60, 32, 88, 46] 20 _ (by decide) s21
  have s19 := step_word 46 [32, 112, 40, 89, 41, 32, 58, 45, 32, 113, 40, 88, 41, 44, 32, 89, 32, 60, 32, 88, 46] 19 1 4 [46] _ _ (by decide) (by decide) (by decide) (by decide) rfl (by decide) rfl s20
  have s18 := step_word 41 [46, 32, 112, 40, 89, 41, 32, 58, 45, 32, 113, 40, 88, 41, 44, 32, 89, 32, 60, 32, 88, 46] 18 1 4 [41] _ _ (by decide) (by decide) (by decide) (by decide) rfl (by decide) rfl s19
  have s17 := step_word 88 [41, 46, 32, 112, 40, 89, 41, 32, 58, 45, 32, 113, 40, 88, 41, 44, 32, 89, 32, 60, 32, 88, 46] 17 1 2 [88] _ _ (by decide) (by decide) (by decide) (by decide) rfl (by decide) rfl s18
  have s16 := step_word 40 [88, 41, 46, 32, 112, 40, 89, 41, 32, 58, 45, 32, 113, 40, 88, 41, 44, 32, 89, 32, 60, 32, 88, 46] 16 1 4 [40] _ _ (by decide) (by decide) (by decide) (by decide) rfl (by decide) rfl s17
  have s15 := step_word 114 [40, 88, 41, 46, 32, 112, 40, 89, 41, 32, 58, 45, 32, 113, 40, 88, 41, 44, 32, 89, 32, 60, 32, 88, 46] 15 1 1 [114] _ _ (by decide) (by decide) (by decide) (by decide) rfl (by decide) rfl s16
  have s14 := step_word 33 [114, 40, 88, 41, 46, 32, 112, 40, 89, 41, 32, 58, 45, 32, 113, 40, 88, 41, 44, 32, 89, 32, 60, 32, 88, 46] 14 1 4 [33] _ _ (by decide) (by decide) (by decide) (by decide) rfl (by decide) rfl s15
  have s13 := step_blank 32 [33, 114, 40, 88, 41, 46, 32, 112, 40, 89, 41, 32, 58, 45, 32, 113, 40, 88, 41, 44, 32, 89, 32, 60, 32, 88, 46] 13 _ (by decide) s14
  have s12 := step_word 44 [32, 33, 114, 40, 88, 41, 46, 32, 112, 40, 89, 41, 32, 58, 45, 32, 113, 40, 88, 41, 44, 32, 89, 32, 60, 32, 88, 46] 12 1 4 [44] _ _ (by decide) (by decide) (by decide) (by decide) rfl (by decide) rfl s13
  have s11 := step_word 41 [44, 32, 33, 114, 40, 88, 41, 46, 32, 112, 40, 89, 41, 32, 58, 45, 32, 113, 40, 88, 41, 44, 32, 89, 32, 60, 32, 88, 46] 11 1 4 [41] _ _ (by decide) (by decide) (by decide) (by decide) rfl (by decide) rfl s12
  have s10 := step_word 88 [41, 44, 32, 33, 114, 40, 88, 41, 46, 32, 112, 40, 89, 41, 32, 58, 45, 32, 113, 40, 88, 41, 44, 32, 89, 32, 60, 32, 88, 46] 10 1 2 [88] _ _ (by decide) (by decide) (by decide) (by decide) rfl (by decide) rfl s11
  have s9 := step_word 40 [88, 41, 44, 32, 33, 114, 40, 88, 41, 46, 32, 112, 40, 89, 41, 32, 58, 45, 32, 113, 40, 88, 41, 44, 32, 89, 32, 60, 32, 88, 46] 9 1 4 [40] _ _ (by decide) (by decide) (by decide) (by decide) rfl (by decide) rfl s10
  have s8 := step_word 113 [40, 88, 41, 44, 32, 33, 114, 40, 88, 41, 46, 32, 112, 40, 89, 41, 32, 58, 45, 32, 113, 40, 88, 41, 44, 32, 89, 32, 60, 32, 88, 46] 8 1 1 [113] _ _ (by decide) (by decide) (by decide) (by decide) rfl (by decide) rfl s9
  have s7 := step_blank 32 [113, 40, 88, 41, 44, 32, 33, 114, 40, 88, 41, 46, 32, 112, 40, 89, 41, 32, 58, 45, 32, 113, 40, 88, 41, 44, 32, 89, 32, 60, 32, 88, 46] 7 _ (by decide) s8
  have s5 := step_word 58 [45, 32, 113, 40, 88, 41, 44, 32, 33, 114, 40, 88, 41, 46, 32, 112, 40, 89, 41, 32, 58, 45, 32, 113, 40, 88, 41, 44, 32, 89, 32, 60, 32, 88, 46] 5 2 4 [58, 45] _ _ (by decide) (by decide) (by decide) (by decide) rfl (by decide) rfl s7
  have s4 := step_blank 32 [58, 45, 32, 113, 40, 88, 41, 44, 32, 33, 114, 40, 88, 41, 46, 32, 112, 40, 89, 41, 32, 58, 45, 32, 113, 40, 88, 41, 44, 32, 89, 32, 60, 32, 88, 46] 4 _ (by decide) s5
  have s3 := step_word 41 [32, 58, 45, 32, 113, 40, 88, 41, 44, 32, 33, 114, 40, 88, 41, 46, 32, 112, 40, 89, 41, 32, 58, 45, 32, 113, 40, 88, 41, 44, 32, 89, 32, 60, 32, 88, 46] 3 1 4 [41] _ _ (by decide) (by decide) (by decide) (by decide) rfl (by decide) rfl s4
  have s2 := step_word 88 [41, 32, 58, 45, 32, 113, 40, 88, 41, 44, 32, 33, 114, 40, 88, 41, 46, 32, 112, 40, 89, 41, 32, 58, 45, 32, 113, 40, 88, 41, 44, 32, 89, 32, 60, 32, 88, 46] 2 1 2 [88] _ _ (by decide) (by decide) (by decide) (by decide) rfl (by decide) rfl s3
  have s1 := step_word 40 [88, 41, 32, 58, 45, 32, 113, 40, 88, 41, 44, 32, 33, 114, 40, 88, 41, 46, 32, 112, 40, 89, 41, 32, 58, 45, 32, 113, 40, 88, 41, 44, 32, 89, 32, 60, 32, 88, 46] 1 1 4 [40] _ _ (by decide) (by decide) (by decide) (by decide) rfl (by decide) rfl s2
  have s0 := step_word 112 [40, 88, 41, 32, 58, 45, 32, 113, 40, 88, 41, 44, 32, 33, 114, 40, 88, 41, 46, 32, 112, 40, 89, 41, 32, 58, 45, 32, 113, 40, 88, 41, 44, 32, 89, 32, 60, 32, 88, 46] 0 1 1 [112] _ _ (by decide) (by decide) (by decide) (by decide) rfl (by decide) rfl s1
  exact s0

def begT : ByteArray := ⟨#[112, 40, 88, 41, 32, 58, 45, 32, 113, 40, 88, 41, 44, 32, 33, 114, 40, 88, 41, 46, 32, 112, 40, 89, 41, 32, 58, 45, 32, 113, 40, 88, 41, 44, 32, 89, 32, 60, 32, 88, 46]⟩
def varT (x : List UInt8) : Tm := (1, tx x, 0)
def begR : List Rul := [((1, tx [112], [varT [88]]), [(1, tx [113], [varT [88]]), (2, tx [114], [varT [88]])]), ((1, tx [112], [varT [89]]), [(1, tx [113], [varT [88]]), (5, ⟨#[]⟩, [varT [89], varT [88]])])]
theorem parse1 : progL 30 [(1, [112], 0), (4, [40], 1), (2, [88], 2), (4, [41], 3), (4, [58, 45], 5), (1, [113], 8), (4, [40], 9), (2, [88], 10), (4, [41], 11), (4, [44], 12), (4, [33], 14), (1, [114], 15), (4, [40], 16), (2, [88], 17), (4, [41], 18), (4, [46], 19), (1, [112], 21), (4, [40], 22), (2, [89], 23), (4, [41], 24), (4, [58, 45], 26), (1, [113], 29), (4, [40], 30), (2, [88], 31), (4, [41], 32), (4, [44], 33), (2, [89], 35), (4, [60], 37), (2, [88], 39), (4, [46], 40)] = .ok begR := by kernel_rfl

/-- The rules of a text; none: it is no program. -/
def okRs : Except Bool (List Rul) → List Rul
  | .ok l => l
  | .error _ => []
def rulesS (s : ByteArray) : List Rul := okRs (progL 30 (wordsL (bs (Lx.cutS s 1200))))
theorem beg_rules : rulesS begT = begR := by
  have h1 : wordsL (bs begT) = [(1, [112], 0), (4, [40], 1), (2, [88], 2), (4, [41], 3), (4, [58, 45], 5), (1, [113], 8), (4, [40], 9), (2, [88], 10), (4, [41], 11), (4, [44], 12), (4, [33], 14), (1, [114], 15), (4, [40], 16), (2, [88], 17), (4, [41], 18), (4, [46], 19), (1, [112], 21), (4, [40], 22), (2, [89], 23), (4, [41], 24), (4, [58, 45], 26), (1, [113], 29), (4, [40], 30), (2, [88], 31), (4, [41], 32), (4, [44], 33), (2, [89], 35), (4, [60], 37), (2, [88], 39), (4, [46], 40)] := by
    have h2 : scanAt (bs begT) 0 = some [(1, [112], 0), (4, [40], 1), (2, [88], 2), (4, [41], 3), (4, [58, 45], 5), (1, [113], 8), (4, [40], 9), (2, [88], 10), (4, [41], 11), (4, [44], 12), (4, [33], 14), (1, [114], 15), (4, [40], 16), (2, [88], 17), (4, [41], 18), (4, [46], 19), (1, [112], 21), (4, [40], 22), (2, [89], 23), (4, [41], 24), (4, [58, 45], 26), (1, [113], 29), (4, [40], 30), (2, [88], 31), (4, [41], 32), (4, [44], 33), (2, [89], 35), (4, [60], 37), (2, [88], 39), (4, [46], 40)] := beg1
    rw [wordsL, h2]
  have h3 : Lx.cutS begT 1200 = begT := by kernel_rfl
  rw [rulesS, h3, h1, parse1]
  rfl

theorem rules_any (s : ByteArray) (w : World) : Calls Try.prog 5 #[.string s] w fun e w' => (∃ y, e = .returned y ∧ isRs w' (rulesS s) y) ∧ Below w.heap.size w w' := by
  have hcs := Lx.cutS_size s 1200
  have HC := hide (Lx.cutS_any s 1200)
  obtain ⟨R, hR⟩ : ∃ R, Hid (progL 30 (wordsL (bs (Lx.cutS s 1200))) = R) := ⟨_, rfl⟩
  have HP := hide (Rp.rprogram_any (Lx.cutS s 1200) w (by omega))
  have HQ : Hid (rulesS s = okRs R) := by show _ = _; rw [rulesS, hR.out]
  rw [hR.out] at HP
  clear hR
  go_enter Try.func5, Try.ntmps5
  go_wp2_with fail
  refine Calls.mono (HC.out w) ?_
  rintro e w2 ⟨rfl, hw2⟩
  have hw2' := hw2.symm
  subst hw2'
  clear hw2 HC
  generalize Lx.cutS s 1200 = t at *
  go_wp2_with fail
  refine Calls.mono HP.out ?_
  rintro e w3 ⟨hz, hb⟩
  cases R with
  | error c =>
    obtain rfl := hz
    cases c
    all_goals simp only [Bool.false_eq_true, if_false, if_true]
    all_goals go_wp2_with fail
    all_goals go_ret
    all_goals exact ⟨⟨_, rfl, by rw [HQ.out]; exact ⟨[], rfl, ⟨by simp [cellsRz], .inl ⟨rfl, rfl⟩⟩, by simp⟩⟩, hb⟩
  | ok l =>
    obtain ⟨y, rfl, hy⟩ := hz
    obtain ⟨ao, cap, rfl⟩ := Rp.isRs_shape hy
    have HY := hide hy
    clear hy
    go_wp2_with fail
    go_ret
    exact ⟨⟨_, rfl, by rw [HQ.out]; exact HY.out⟩, hb⟩

/-- Is it the head of a rule? -/
def defR (rs : List Rul) (nm : ByteArray) : Bool := rs.any fun q => q.1.2.1.toList == nm.toList
theorem any_take {α : Type} {p : α → Bool} {ls : List α} {k : Nat} (h : k < ls.length) : (ls.take (k + 1)).any p = ((ls.take k).any p || p ls[k]) := by
  rw [List.take_succ_eq_append_getElem h, List.any_append]
  simp
theorem any_true {α : Type} {p : α → Bool} {ls : List α} {k : Nat} (h : k < ls.length) (hp : p ls[k] = true) : ls.any p = true := by
  rw [List.any_eq_true]
  exact ⟨_, List.getElem_mem h, hp⟩

end Go.Proofs.Ytjejpjpdfdcnlaa.Ck
namespace Go.Proofs.Ytjejpjpdfdcnlaa.Sy
open Go.RowKit
open Lx (Wd tx bs scanAt frontAt)
open Vl (Tm)

/-- Words that are not too long. -/
def Sh (ws : List Wd) : Prop := ∀ x ∈ ws, x.2.1.length ≤ 16
theorem Sh.tail {ws : List Wd} (h : Sh ws) : Sh ws.tail := fun x hx => h x (List.mem_of_mem_tail hx)
theorem Sh.next {ws : List Wd} (h : Sh ws) : (nextW ws).2.1.length ≤ 16 := by
  cases ws with
  | nil => simp [nextW]
  | cons x r => exact h x (by simp)
theorem tx_size (x : List UInt8) : (tx x).size = x.length := by simp [tx, ByteArray.size]
theorem term_ok {x : Wd} {t : Tm} (hx : x.2.1.length ≤ 16) (h : termW x = some t) : OkT t := by
  unfold termW at h
  split at h
  · cases h
    exact ⟨fun e => by simp at e, by rw [tx_size]; exact hx⟩
  · unfold constW at h
    split at h
    · cases h
      exact ⟨fun e => by simp at e, by rw [tx_size]; exact hx⟩
    · split at h
      · split at h
        · rename_i hb
          cases h
          exact ⟨fun _ => hb, by show (0 : Nat) ≤ 16; omega⟩
        · cases h
      · cases h
theorem termL_ok {ws : List Wd} {t : Tm} {r : List Wd} (hw : Sh ws) (h : oneL termW ws = .ok (t, r)) : OkT t ∧ Sh r := by
  unfold oneL at h
  cases hf : termW (nextW ws) with
  | none => rw [hf] at h; cases h
  | some u =>
    rw [hf] at h
    cases h
    exact ⟨term_ok hw.next hf, hw.tail⟩
theorem listL_ok {α : Type} {item : List Wd → Re α} {P : α → Prop} (hi : ∀ ws x r, Sh ws → item ws = .ok (x, r) → P x ∧ Sh r) : ∀ (n : Nat) (ws : List Wd) (l : List α) (r : List Wd), Sh ws → listL item n ws = .ok (l, r) → l.length ≤ n ∧ (∀ x ∈ l, P x) ∧ Sh r := by
  intro n
  induction n with
  | zero =>
    intro ws l r hw h
    unfold listL at h
    split at h <;> cases h
  | succ n ih =>
    intro ws l r hw h
    unfold listL at h
    split at h
    · cases h
    · rename_i x t hx
      obtain ⟨hp, ht⟩ := hi ws x t hw hx
      split at h
      · split at h
        · cases h
        · rename_i l' r' hl
          cases h
          obtain ⟨h1, h2, h3⟩ := ih _ _ _ ht.tail hl
          refine ⟨by rw [List.length_cons]; omega, fun y hy => ?_, h3⟩
          rcases List.mem_cons.1 hy with rfl | hy
          · exact hp
          · exact h2 y hy
      · cases h
        refine ⟨by simp, fun y hy => ?_, ht⟩
        rw [List.mem_singleton.1 hy]
        exact hp
theorem atomL_ok {ws : List Wd} {l : Lit} {r : List Wd} (hw : Sh ws) (h : atomL termW ws = .ok (l, r)) : OkL l ∧ l.1 = 1 ∧ Sh r := by
  unfold atomL at h
  split at h
  · split at h
    · split at h
      · cases h
      · rename_i l' r' hl
        split at h
        · cases h
          obtain ⟨h1, h2, h3⟩ := listL_ok (P := OkT) (fun ws x r hw h => termL_ok hw h) 4 _ _ _ hw.tail.tail hl
          exact ⟨⟨by rw [tx_size]; exact hw.next, h1, h2, ⟨by simp, by simp⟩, fun e => by simp at e⟩, rfl, h3.tail⟩
        · cases h
    · cases h
      exact ⟨⟨by rw [tx_size]; exact hw.next, by simp, by simp, ⟨by simp, by simp⟩, fun e => by simp at e⟩, rfl, hw.tail⟩
  · cases h
theorem kindOf_le (x : List UInt8) : kindOf x = 0 ∨ (3 ≤ kindOf x ∧ kindOf x ≤ 6) := by
  unfold kindOf
  split
  · right; omega
  · split
    · right; omega
    · split
      · right; omega
      · split
        · right; omega
        · left; rfl
theorem cmpL_ok {ws : List Wd} {l : Lit} {r : List Wd} (hw : Sh ws) (h : cmpL ws = .ok (l, r)) : OkL l ∧ Sh r := by
  unfold cmpL at h
  split at h
  · cases h
  · rename_i a t ha
    split at h
    · cases h
    · rename_i hk
      split at h
      · cases h
      · rename_i b r' hb
        cases h
        obtain ⟨h1, h2⟩ := termL_ok hw ha
        obtain ⟨h3, h4⟩ := termL_ok h2.tail hb
        rcases kindOf_le (nextW t).2.1 with h0 | ⟨h5, h6⟩
        · exact absurd h0 hk
        · refine ⟨⟨by show (0 : Nat) ≤ 16; omega, by simp, fun y hy => ?_, ⟨?_, ?_⟩, fun _ => rfl⟩, h4⟩
          · rcases List.mem_cons.1 hy with rfl | hy
            · exact h1
            · rw [List.mem_singleton.1 hy]; exact h3
          · show (1 : Int) ≤ (kindOf (nextW t).2.1 : Nat); omega
          · show ((kindOf (nextW t).2.1 : Nat) : Int) ≤ 6; omega
theorem litL_ok {ws : List Wd} {l : Lit} {r : List Wd} (hw : Sh ws) (h : litL ws = .ok (l, r)) : OkL l ∧ Sh r := by
  unfold litL at h
  split at h
  · split at h
    · cases h
    · rename_i l' r' hl
      cases h
      obtain ⟨h1, h2, h3⟩ := atomL_ok hw.tail hl
      exact ⟨⟨h1.name, h1.few, h1.terms, ⟨by simp, by simp⟩, fun e => by simp at e⟩, h3⟩
  · split at h
    · obtain ⟨h1, _, h3⟩ := atomL_ok hw h
      exact ⟨h1, h3⟩
    · exact cmpL_ok hw h
theorem clauseL_ok {ws : List Wd} {q : Rul} {r : List Wd} (hw : Sh ws) (h : clauseL ws = .ok (q, r)) : OkR q ∧ q.1.1 = 1 ∧ Sh r := by
  unfold clauseL at h
  split at h
  · cases h
  · rename_i hd t hh
    obtain ⟨h1, h2, h3⟩ := atomL_ok hw hh
    split at h
    · split at h
      · cases h
      · rename_i b r' hb
        split at h
        · cases h
          obtain ⟨k1, k2, k3⟩ := listL_ok (P := OkL) (fun ws x r hw h => litL_ok hw h) 6 _ _ _ h3.tail hb
          exact ⟨⟨h1, k2, k1⟩, h2, k3.tail⟩
        · cases h
    · split at h
      · cases h
        exact ⟨⟨h1, by simp, by simp⟩, h2, h3.tail⟩
      · cases h
theorem progL_ok : ∀ (n : Nat) (ws : List Wd) (l : List Rul), Sh ws → progL n ws = .ok l → l.length ≤ n ∧ ∀ q ∈ l, OkR q ∧ q.1.1 = 1 := by
  intro n
  induction n with
  | zero =>
    intro ws l hw h
    cases ws with
    | nil => cases h; exact ⟨Nat.le_refl _, by simp⟩
    | cons x r =>
      unfold progL at h
      split at h <;> cases h
  | succ n ih =>
    intro ws l hw h
    cases ws with
    | nil => cases h; exact ⟨by simp, by simp⟩
    | cons x t =>
      unfold progL at h
      split at h
      · cases h
      · rename_i c r hc
        obtain ⟨h1, h2, h3⟩ := clauseL_ok hw hc
        split at h
        · cases h
        · rename_i l' hl
          cases h
          obtain ⟨k1, k2⟩ := ih _ _ h3 hl
          refine ⟨by rw [List.length_cons]; omega, fun q hq => ?_⟩
          rcases List.mem_cons.1 hq with rfl | hq
          · exact ⟨h1, h2⟩
          · exact k2 q hq
theorem Sh.of {ws : List Wd} (h : ∀ x ∈ ws, OkF x) : Sh ws := fun x hx => by
  rcases h x hx with h | rfl
  · exact h.len
  · simp
end Go.Proofs.Ytjejpjpdfdcnlaa.Sy
namespace Go.Proofs.Ytjejpjpdfdcnlaa.Ck
open Go.RowKit
open Lx (tx)
open Vl (Tm Ts Fr)
open Sy

/-- A term is that variable; a literal binds it; a body does. -/
def bindT (nm : ByteArray) (t : Tm) : Bool := decide (t.1 = 1) && (t.2.1.toList == nm.toList)
def bindL (nm : ByteArray) (l : Sy.Lit) : Bool := decide (l.1 = 1) && l.2.2.any (bindT nm)
def bindsB (ls : List Sy.Lit) (nm : ByteArray) : Bool := ls.any (bindL nm)
set_option maxRecDepth 10000 in
set_option maxHeartbeats 8000000 in
theorem binds_any {w : World} {q : Rul} {y : Value} (h : isRul w q y) (hf : FewR q) (nm : ByteArray) :
    Calls Try.prog 34 #[y, .string nm] w fun e w' => e = .returned (.bool (bindsB q.2 nm)) ∧ Below w.heap.size w w' := by
  obtain ⟨⟨hk, hnm, ht⟩, ls⟩ := q
  obtain ⟨va, vb, rfl, hva, hvb⟩ := h
  simp only at hva hvb ⊢
  obtain ⟨_, aoa, capa, rfl⟩ := own_len hva
  obtain ⟨aob, capb, rfl⟩ := isLs_shape hvb
  have hlen : ls.length ≤ 1000000 := hf.body.len
  have HF := hide hf
  obtain ⟨w1, hw1⟩ : ∃ w1, w.alloc (.cells #[.int .i64 hk, .string hnm, .slice aoa ht.length capa, .slice aob ls.length capb] 30) = w1 := ⟨_, rfl⟩
  have hx0 := Lx.below_box w (.cells #[.int .i64 hk, .string hnm, .slice aoa ht.length capa, .slice aob ls.length capb] 30)
  have B0 := Bx.new w #[.int .i64 hk, .string hnm, .slice aoa ht.length capa, .slice aob ls.length capb] 30
  rw [hw1] at hx0 B0
  have HB := hide hx0
  have HC := hide (isLs_cells (isLs_below hvb hx0)).2
  obtain ⟨⟨c0, c1, c2, c3⟩, _, _, _, _⟩ := B0.four
  clear hva hvb hf hx0 B0
  have HW := hide hw1
  go_enter Try.func34, Try.ntmps34
  go_wp2_with fail
  clear HW hw1
  go_loopw [5, 6] (fun iv _ wr => ∃ i : Nat, iv = .int .i64 i ∧ i ≤ ls.length ∧ Hid ((ls.take i).any (bindL nm) = false) ∧ wr = w1) (fun iv _ _ => ls.length - (intOf iv).toNat)
  case atStart => exact ⟨0, rfl, Nat.zero_le _, rfl, rfl⟩
  case round =>
    obtain ⟨i, rfl, hi, HI, hwr⟩ := hrel
    have hwr' := hwr.symm
    subst hwr'
    clear hwr
    by_cases hlt : i < ls.length
    · have hltI : (i : Int) < (ls.length : Int) := by omega
      obtain ⟨g, rfl, hc⟩ := HC.out (by omega)
      obtain ⟨u, hu, k0, k1, k2⟩ := hc i hlt
      have HAT := hide (any_take (p := bindL nm) hlt)
      have HAF : Hid (bindL nm ls[i] = true → ls.any (bindL nm) = true) := fun hp => any_true hlt hp
      have hfa := HF.out.body.args _ (List.getElem_mem hlt)
      have hts := TsB.of hu hfa.1
      clear hc hu
      generalize ls[i] = l at *
      obtain ⟨lk, ln, ts⟩ := l
      simp only at k0 k1 k2 hts hfa
      obtain ⟨aot, capt, rfl, htl, hct⟩ := hts
      by_cases hk1 : lk = 1
      · subst hk1
        have HL : Hid (bindL nm (1, ln, ts) = ts.any (bindT nm)) := by show _ = _; simp [bindL]
        clear hfa
        have HCT := hide hct
        clear hct
        go_wp2_with fail
        go_loopw [6] (fun jv wr => ∃ j : Nat, jv = .int .i64 j ∧ j ≤ ts.length ∧ Hid ((ts.take j).any (bindT nm) = false) ∧ wr = w1) (fun jv _ => ts.length - (intOf jv).toNat)
        case atStart => exact ⟨0, rfl, Nat.zero_le _, rfl, rfl⟩
        case round =>
          obtain ⟨j, rfl, hj, HJ, hwr⟩ := hrel
          have hwr' := hwr.symm
          subst hwr'
          clear hwr
          by_cases hjl : j < ts.length
          · have hjlI : (j : Int) < (ts.length : Int) := by omega
            obtain ⟨gt, offt, rfl, hgt, hc⟩ := HCT.out (by omega)
            obtain ⟨t0, t1, _⟩ := hc j hjl
            have HBT := hide (any_take (p := bindT nm) hjl)
            have HBF : Hid (bindT nm ts[j] = true → ts.any (bindT nm) = true) := fun hp => any_true hjl hp
            clear hc
            generalize ts[j] = t at *
            obtain ⟨tk, tn, tz⟩ := t
            simp only at t0 t1
            by_cases hk2 : tk = 1
            · subst hk2
              have HT0 : Hid (bindT nm (1, tn, tz) = (tn.toList == nm.toList)) := by show _ = _; simp [bindT]
              cases hq : (tn.toList == nm.toList)
              · have HT : Hid (bindT nm (1, tn, tz) = false) := HT0.out.trans hq
                go_wp2_with fail
                go_roundw
                case rel => exact ⟨j + 1, by go_num, by omega, by show _ = _; rw [HBT.out, HJ.out, HT.out]; rfl, by first | rfl | trivial⟩
                case measure => simp [intOf]; omega
              · have HT : Hid (bindT nm (1, tn, tz) = true) := HT0.out.trans hq
                go_wp2_with fail
                go_ret
                refine ⟨?_, HB.out⟩
                show _ = Ending.returned (.bool (ls.any (bindL nm)))
                rw [HAF.out (HL.out.trans (HBF.out HT.out))]
                rfl
            · have HT : Hid (bindT nm (tk, tn, tz) = false) := by show _ = _; simp [bindT, hk2]
              go_wp2_with fail
              go_roundw
              case rel => exact ⟨j + 1, by go_num, by omega, by show _ = _; rw [HBT.out, HJ.out, HT.out]; rfl, by first | rfl | trivial⟩
              case measure => simp [intOf]; omega
          · have hjlI : ¬ (j : Int) < (ts.length : Int) := by omega
            have hje : ts.take j = ts := by rw [show j = ts.length by omega, List.take_length]
            rw [hje] at HJ
            clear hje
            go_wp2_with fail
            go_roundw
            case rel => exact ⟨i + 1, by go_num, by omega, by show _ = _; rw [HAT.out, HI.out, HL.out, HJ.out]; rfl, by first | rfl | trivial⟩
            case measure => simp [intOf]; omega
      · have HL : Hid (bindL nm (lk, ln, ts) = false) := by show _ = _; simp [bindL, hk1]
        clear hfa hct
        go_wp2_with fail
        go_loopw [6] (fun jv wr => jv = .int .i64 0 ∧ wr = w1) (fun _ _ => 0)
        case atStart => exact ⟨rfl, rfl⟩
        case round =>
          obtain ⟨rfl, hwr⟩ := hrel
          have hwr' := hwr.symm
          subst hwr'
          clear hwr
          go_wp2_with fail
          go_roundw
          case rel => exact ⟨i + 1, by go_num, by omega, by show _ = _; rw [HAT.out, HI.out, HL.out]; rfl, by first | rfl | trivial⟩
          case measure => simp [intOf]; omega
    · have hltI : ¬ (i : Int) < (ls.length : Int) := by omega
      have hie : ls.take i = ls := by rw [show i = ls.length by omega, List.take_length]
      rw [hie] at HI
      clear hie
      go_wp2_with fail
      go_ret
      refine ⟨?_, HB.out⟩
      show _ = Ending.returned (.bool (ls.any (bindL nm)))
      rw [HI.out]
      rfl
end Go.Proofs.Ytjejpjpdfdcnlaa.Ck
namespace Go.Proofs.Ytjejpjpdfdcnlaa.Ck
open Go.RowKit
open Lx (tx)
open Vl (Tm Ts Fr)
open Sy

theorem cellsLz_len (a : List (Sy.Lit × Value)) : (cellsLz a).length = a.length * 3 := by
  induction a with
  | nil => rfl
  | cons x l ih => simp only [cellsLz, List.flatMap_cons, List.length_append, List.length_cons, List.length_nil] at ih ⊢; omega

theorem head_body {W : World} {hl : Sy.Lit} {ls : List Sy.Lit} {va vb : Value} (ha : isTs W hl.2.2 va) (hb : isLs W ls vb) (hn : ls.length ≤ 1000000) :
    ∃ ao cap w3, (∀ ty, (Builtin.append_ #[28, 28] ty #[.slice (some ⟨W.heap.size, 0, none⟩) 1 1, vb]).run Try.prog (W.alloc (.cells #[.int .i64 hl.1, .string hl.2.1, va] 27)) = .ok (.slice ao (ls.length + 1) cap) w3) ∧
      Hid (isLs w3 (hl :: ls) (.slice ao (ls.length + 1) cap)) ∧ Hid (Below W.heap.size W w3) := by
  obtain ⟨zs, rfl, h2, h3⟩ := hb
  have hlm : (zs.map (·.1)).length = zs.length := List.length_map _
  rw [hlm] at hn ⊢
  have hB := Lx.below_box W (.cells #[.int .i64 hl.1, .string hl.2.1, va] 27)
  have own1 : (W.alloc (.cells #[.int .i64 hl.1, .string hl.2.1, va] 27)).ownsRow W.heap.size 27 3 (.slice (some ⟨W.heap.size, 0, none⟩) 1 1) 1 [.int .i64 hl.1, .string hl.2.1, va] :=
    World.ownsRow_lit W #[.int .i64 hl.1, .string hl.2.1, va] 1 (Nat.le_refl _) (by decide) rfl
  obtain ⟨i, hi, hz, hsize, hbyt⟩ := info_parts Sy.Try.info27
  have h2' : (W.alloc (.cells #[.int .i64 hl.1, .string hl.2.1, va] 27)).ownsRow 0 27 3 vb zs.length (cellsLz zs) := h2.alloc _
  rcases Lx.own_shape h2 with ⟨rfl, h0⟩ | ⟨g, cap, rfl, hgc, hcm, hg, _⟩
  · have hz0 : zs = [] := List.length_eq_zero_iff.1 h0
    subst hz0
    refine ⟨some ⟨W.heap.size, 0, none⟩, 1, _, fun ty => run_append_owned_none _ W.heap.size 28 ty 27 i 3 Try.underlying28 hi _ 1 _ own1, ⟨[(hl, va)], rfl, Vl.own_zero own1, fun z hz => ?_⟩, hB⟩
    rw [List.mem_singleton.1 hz]
    exact isTs_below ha hB
  · have H := fun ty => run_append_own_at (P := Try.prog) (W.alloc (.cells #[.int .i64 hl.1, .string hl.2.1, va] 27)) W.heap.size 28 ty 27 i _ 3 48 Try.underlying28 hi hz hsize hbyt rfl (by decide) _ 1 _ own1 ⟨g, 0, none⟩ zs.length cap (cellsLz zs) (cellsLz_len zs) (h2'.cells rfl) (by
      intro u hu
      simp only [cellsLz, List.mem_flatMap] at hu
      obtain ⟨z, hz, hu⟩ := hu
      rcases List.mem_cons.1 hu with rfl | hu
      · rfl
      rcases List.mem_cons.1 hu with rfl | hu
      · rfl
      rw [List.mem_singleton.1 hu]
      exact isTs_one (h3 z hz)) (by simp only [maxLen]; omega) (by
        have : (1 + zs.length) * 48 ≤ 1000001 * 48 := Nat.mul_le_mul (by omega) (Nat.le_refl _)
        omega) hB.size
    obtain ⟨v', w', hr, g1, g2, _, g4⟩ := H 0
    have hF : Fr (fun k => (Value.slice (some ⟨W.heap.size, 0, none⟩) 1 1).ownBlock = some k) W w' := ((Fr.refl _ W).alloc (.cells #[.int .i64 hl.1, .string hl.2.1, va] 27)).trans (Vl.Fr.of_grown (F := fun k => (Value.slice (some ⟨W.heap.size, 0, none⟩) 1 1).ownBlock = some k) g2 (fun k hk => hk)) (fun _ _ e => e)
    have hBw : Below W.heap.size W w' := hF.below (fun j hj => by simp [Value.ownBlock] at hj; omega) (Nat.le_refl _)
    rw [Nat.add_comm 1 zs.length] at g1
    rcases Lx.own_shape g1 with ⟨_, h0⟩ | ⟨g', cap', rfl, _⟩
    · omega
    · refine ⟨some ⟨g', 0, none⟩, cap', w', fun ty => hr, ⟨(hl, va) :: zs, rfl, ?_, fun z hz => ?_⟩, hBw⟩
      · exact Vl.own_zero g1
      · rcases List.mem_cons.1 hz with rfl | hz
        · exact isTs_below ha hBw
        · exact isTs_below (h3 z hz) hBw
end Go.Proofs.Ytjejpjpdfdcnlaa.Ck
