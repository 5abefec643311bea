/- The law's first steps: one rule, one fact, one that is none. What the row's listed variables give the walks: the tables of signs and of the powers of ten. Rules that were read are such as may be printed: in plain mathematics. The law of many rules, in plain mathematics: its text, its words, what is read of them. -/
import Derived.Test.YtcfhpodpkficaaaGreatDoorPart09
import Derived.Test.YtcfhpodpkficaaaGreatDoorTie
import Derived.Test.YtcfhpodpkficaaaGreatDoorCards
import Derived.ProofKit
import Derived.LaidMore
import Derived.OpenShut
import Derived.ShutString
import Derived.ChangeOld
import Derived.Below
import Derived.Stop.Joined
import Derived.Test.YtcfhpodpkficaaaGreatDoorPart06
namespace Go.Proofs.YtcfhpodpkficaaaGreatDoor.Sy
open Go.RowKit
open Lx (Wd tx bs Sg scanL scanL_nil scanL_cons blankN sizeL kindL scanAt)
open Vl (Tm Fr Pow10)

theorem step_word (c : UInt8) (t : List UInt8) (a n k : Nat) (x r : List UInt8) (L : List Wd) (h1 : blankN c.toNat = false) (h2 : ¬ c.toNat = 37) (h3 : sizeL (c :: t) = n) (h4 : ¬ (n = 0 ∨ 16 < n)) (h5 : t.drop (n - 1) = r) (h6 : kindL (c :: t) = k) (h7 : (c :: t).take n = x) (h8 : scanL r (a + n) = some L) : scanL (c :: t) a = some ((k, x, a) :: L) := by
  rw [scanL_cons, if_neg (by rw [h1]; decide), if_neg h2, h3, if_neg h4, h5, h6, h7, h8]
  rfl
theorem step_blank (c : UInt8) (t : List UInt8) (a : Nat) (L : List Wd) (h1 : blankN c.toNat = true) (h8 : scanL t (a + 1) = some L) : scanL (c :: t) a = some L := by
  rw [scanL_cons, if_pos h1, h8]

theorem beg1 : scanL [112, 40, 88, 41, 32, 58, 45, 32, 113, 40, 88, 44, 32, 51, 41, 44, 32, 33, 114, 40, 88, 41, 44, 32, 88, 32, 33, 61, 32, 97, 46] 0 = some [(1, [112], 0), (4, [40], 1), (2, [88], 2), (4, [41], 3), (4, [58, 45], 5), (1, [113], 8), (4, [40], 9), (2, [88], 10), (4, [44], 11), (3, [51], 13), (4, [41], 14), (4, [44], 15), (4, [33], 17), (1, [114], 18), (4, [40], 19), (2, [88], 20), (4, [41], 21), (4, [44], 22), (2, [88], 24), (4, [33, 61], 26), (1, [97], 29), (4, [46], 30)] := by
  have s30 := step_word 46 [] 30 1 4 [46] _ _ (by decide) (by decide) (by decide) (by decide) rfl (by decide) rfl (scanL_nil 31)
  have s29 := step_word 97 [46] 29 1 1 [97] _ _ (by decide) (by decide) (by decide) (by decide) rfl (by decide) rfl s30
  have s28 := step_blank 32 [97, 46] 28 _ (by decide) s29
  have s26 := step_word 33 [61, 32, 97, 46] 26 2 4 [33, 61] _ _ (by decide) (by decide) (by decide) (by decide) rfl (by decide) rfl s28
  have s25 := step_blank 32 [33, 61, 32, 97, 46] 25 _ (by decide) s26
  have s24 := step_word 88 [32, 33, 61, 32, 97, 46] 24 1 2 [88] _ _ (by decide) (by decide) (by decide) (by decide) rfl (by decide) rfl s25
  have s23 := step_blank 32 [88, 32, 33, 61, 32, 97, 46] 23 _ (by decide) s24
  have s22 := step_word 44 [32, 88, 32, 33, 61, 32, 97, 46] 22 1 4 [44] _ _ (by decide) (by decide) (by decide) (by decide) rfl (by decide) rfl s23
  have s21 := step_word 41 [44, 32, 88, 32, 33, 61, 32, 97, 46] 21 1 4 [41] _ _ (by decide) (by decide) (by decide) (by decide) rfl (by decide) rfl s22
  have s20 := step_word 88 [41, 44, 32, 88, 32, 33, 61, 32, 97, 46] 20 1 2 [88] _ _ (by decide) (by decide) (by decide) (by decide) rfl (by decide) rfl s21
  have s19 := step_word 40 [88, 41, 44, 32, 88, 32, 33, 61, 32, 97, 46] 19 1 4 [40] _ _ (by decide) (by decide) (by decide) (by decide) rfl (by decide) rfl s20
  have s18 := step_word 114 [40, 88, 41, 44, 32, 88, 32, 33, 61, 32, 97, 46] 18 1 1 [114] _ _ (by decide) (by decide) (by decide) (by decide) rfl (by decide) rfl s19
  have s17 := step_word 33 [114, 40, 88, 41, 44, 32, 88, 32, 33, 61, 32, 97, 46] 17 1 4 [33] _ _ (by decide) (by decide) (by decide) (by decide) rfl (by decide) rfl s18
  have s16 := step_blank 32 [33, 114, 40, 88, 41, 44, 32, 88, 32, 33, 61, 32, 97, 46] 16 _ (by decide) s17
  have s15 := step_word 44 [32, 33, 114, 40, 88, 41, 44, 32, 88, 32, 33, 61, 32, 97, 46] 15 1 4 [44] _ _ (by decide) (by decide) (by decide) (by decide) rfl (by decide) rfl s16
  have s14 := step_word 41 [44, 32, 33, 114, 40, 88, 41, 44, 32, 88, 32, 33, 61, 32, 97, 46] 14 1 4 [41] _ _ (by decide) (by decide) (by decide) (by decide) rfl (by decide) rfl s15
  have s13 := step_word 51 [41, 44, 32, 33, 114, 40, 88, 41, 44, 32, 88, 32, 33, 61, 32, 97, 46] 13 1 3 [51] _ _ (by decide) (by decide) (by decide) (by decide) rfl (by decide) rfl s14
  have s12 := step_blank 32 [51, 41, 44, 32, 33, 114, 40, 88, 41, 44, 32, 88, 32, 33, 61, 32, 97, 46] 12 _ (by decide) s13
  have s11 := step_word 44 [32, 51, 41, 44, 32, 33, 114, 40, 88, 41, 44, 32, 88, 32, 33, 61, 32, 97, 46] 11 1 4 [44] _ _ (by decide) (by decide) (by decide) (by decide) rfl (by decide) rfl s12
  have s10 := step_word 88 [44, 32, 51, 41, 44, 32, 33, 114, 40, 88, 41, 44, 32, 88, 32, 33, 61, 32, 97, 46] 10 1 2 [88] _ _ (by decide) (by decide) (by decide) (by decide) rfl (by decide) rfl s11
  have s9 := step_word 40 [88, 44, 32, 51, 41, 44, 32, 33, 114, 40, 88, 41, 44, 32, 88, 32, 33, 61, 32, 97, 46] 9 1 4 [40] _ _ (by decide) (by decide) (by decide) (by decide) rfl (by decide) rfl s10
  have s8 := step_word 113 [40, 88, 44, 32, 51, 41, 44, 32, 33, 114, 40, 88, 41, 44, 32, 88, 32, 33, 61, 32, 97, 46] 8 1 1 [113] _ _ (by decide) (by decide) (by decide) (by decide) rfl (by decide) rfl s9
  have s7 := step_blank 32 [113, 40, 88, 44, 32, 51, 41, 44, 32, 33, 114, 40, 88, 41, 44, 32, 88, 32, 33, 61, 32, 97, 46] 7 _ (by decide) s8
  have s5 := step_word 58 [45, 32, 113, 40, 88, 44, 32, 51, 41, 44, 32, 33, 114, 40, 88, 41, 44, 32, 88, 32, 33, 61, 32, 97, 46] 5 2 4 [58, 45] _ _ (by decide) (by decide) (by decide) (by decide) rfl (by decide) rfl s7
  have s4 := step_blank 32 [58, 45, 32, 113, 40, 88, 44, 32, 51, 41, 44, 32, 33, 114, 40, 88, 41, 44, 32, 88, 32, 33, 61, 32, 97, 46] 4 _ (by decide) s5
  have s3 := step_word 41 [32, 58, 45, 32, 113, 40, 88, 44, 32, 51, 41, 44, 32, 33, 114, 40, 88, 41, 44, 32, 88, 32, 33, 61, 32, 97, 46] 3 1 4 [41] _ _ (by decide) (by decide) (by decide) (by decide) rfl (by decide) rfl s4
  have s2 := step_word 88 [41, 32, 58, 45, 32, 113, 40, 88, 44, 32, 51, 41, 44, 32, 33, 114, 40, 88, 41, 44, 32, 88, 32, 33, 61, 32, 97, 46] 2 1 2 [88] _ _ (by decide) (by decide) (by decide) (by decide) rfl (by decide) rfl s3
  have s1 := step_word 40 [88, 41, 32, 58, 45, 32, 113, 40, 88, 44, 32, 51, 41, 44, 32, 33, 114, 40, 88, 41, 44, 32, 88, 32, 33, 61, 32, 97, 46] 1 1 4 [40] _ _ (by decide) (by decide) (by decide) (by decide) rfl (by decide) rfl s2
  have s0 := step_word 112 [40, 88, 41, 32, 58, 45, 32, 113, 40, 88, 44, 32, 51, 41, 44, 32, 33, 114, 40, 88, 41, 44, 32, 88, 32, 33, 61, 32, 97, 46] 0 1 1 [112] _ _ (by decide) (by decide) (by decide) (by decide) rfl (by decide) rfl s1
  exact s0

theorem beg2 : scanL [113, 40, 97, 44, 32, 45, 51, 41, 46] 0 = some [(1, [113], 0), (4, [40], 1), (1, [97], 2), (4, [44], 3), (3, [45, 51], 5), (4, [41], 7), (4, [46], 8)] := by
  have s8 := step_word 46 [] 8 1 4 [46] _ _ (by decide) (by decide) (by decide) (by decide) rfl (by decide) rfl (scanL_nil 9)
  have s7 := step_word 41 [46] 7 1 4 [41] _ _ (by decide) (by decide) (by decide) (by decide) rfl (by decide) rfl s8
  have s5 := step_word 45 [51, 41, 46] 5 2 3 [45, 51] _ _ (by decide) (by decide) (by decide) (by decide) rfl (by decide) rfl s7
  have s4 := step_blank 32 [45, 51, 41, 46] 4 _ (by decide) s5
  have s3 := step_word 44 [32, 45, 51, 41, 46] 3 1 4 [44] _ _ (by decide) (by decide) (by decide) (by decide) rfl (by decide) rfl s4
  have s2 := step_word 97 [44, 32, 45, 51, 41, 46] 2 1 1 [97] _ _ (by decide) (by decide) (by decide) (by decide) rfl (by decide) rfl s3
  have s1 := step_word 40 [97, 44, 32, 45, 51, 41, 46] 1 1 4 [40] _ _ (by decide) (by decide) (by decide) (by decide) rfl (by decide) rfl s2
  have s0 := step_word 113 [40, 97, 44, 32, 45, 51, 41, 46] 0 1 1 [113] _ _ (by decide) (by decide) (by decide) (by decide) rfl (by decide) rfl s1
  exact s0

theorem beg3 : scanL [113, 40, 88, 41] 0 = some [(1, [113], 0), (4, [40], 1), (2, [88], 2), (4, [41], 3)] := by
  have s3 := step_word 41 [] 3 1 4 [41] _ _ (by decide) (by decide) (by decide) (by decide) rfl (by decide) rfl (scanL_nil 4)
  have s2 := step_word 88 [41] 2 1 2 [88] _ _ (by decide) (by decide) (by decide) (by decide) rfl (by decide) rfl s3
  have s1 := step_word 40 [88, 41] 1 1 4 [40] _ _ (by decide) (by decide) (by decide) (by decide) rfl (by decide) rfl s2
  have s0 := step_word 113 [40, 88, 41] 0 1 1 [113] _ _ (by decide) (by decide) (by decide) (by decide) rfl (by decide) rfl s1
  exact s0


def ruleB : Rul := ((1, tx [112], [(1, tx [88], 0)]), [(1, tx [113], [(1, tx [88], 0), (3, ⟨#[]⟩, 3)]), (2, tx [114], [(1, tx [88], 0)]), (4, ⟨#[]⟩, [(1, tx [88], 0), (2, tx [97], 0)])])
def factB : Lit := (1, tx [113], [(2, tx [97], 0), (3, ⟨#[]⟩, -3)])
theorem parse1 : progL 30 [(1, [112], 0), (4, [40], 1), (2, [88], 2), (4, [41], 3), (4, [58, 45], 5), (1, [113], 8), (4, [40], 9), (2, [88], 10), (4, [44], 11), (3, [51], 13), (4, [41], 14), (4, [44], 15), (4, [33], 17), (1, [114], 18), (4, [40], 19), (2, [88], 20), (4, [41], 21), (4, [44], 22), (2, [88], 24), (4, [33, 61], 26), (1, [97], 29), (4, [46], 30)] = .ok [ruleB] := by kernel_rfl
theorem parse2 : onlyL constW [(1, [113], 0), (4, [40], 1), (1, [97], 2), (4, [44], 3), (3, [45, 51], 5), (4, [41], 7), (4, [46], 8)] = .ok factB := by kernel_rfl
theorem parse3 : onlyL constW [(1, [113], 0), (4, [40], 1), (2, [88], 2), (4, [41], 3)] = .error false := by kernel_rfl
theorem itoa3 : Lib.itoa 3 = [51] := by
  rw [show (3 : Int) = ((3 : Nat) : Int) by rfl, Lib.itoa_nonneg, Lib.decDigits_one (by omega)]
  rfl
theorem text1 : ruleS ruleB = ⟨#[112, 40, 88, 41, 32, 58, 45, 32, 113, 40, 88, 44, 32, 51, 41, 44, 32, 33, 114, 40, 88, 41, 44, 32, 88, 32, 33, 61, 32, 97, 46]⟩ := by
  apply Vl.bytes_ext
  show ruleL ruleB = [112, 40, 88, 41, 32, 58, 45, 32, 113, 40, 88, 44, 32, 51, 41, 44, 32, 33, 114, 40, 88, 41, 44, 32, 88, 32, 33, 61, 32, 97, 46]
  simp [ruleL, ruleB, litT, litS, Vl.factS, Vl.factL, Vl.prtL, Vl.prt, itoa3, signS, Lib.join_cons, Lib.joinTail, tx]
theorem okT_var (x : List UInt8) (h : x.length ≤ 16) : OkT (1, tx x, 0) := ⟨fun h => absurd h (show ¬ (1 : Int) = 3 by decide), h⟩
theorem okB : OkR ruleB := by
  have v1 : OkT (1, tx [88], 0) := okT_var _ (by decide)
  have v2 : OkT (3, ⟨#[]⟩, 3) := ⟨fun _ => by decide, by decide⟩
  have v3 : OkT (2, tx [97], 0) := ⟨fun h => absurd h (by decide), by decide⟩
  refine ⟨⟨by decide, by decide, ?_, by decide, fun h => absurd h (by decide)⟩, ?_, by decide⟩
  · intro t ht
    obtain rfl : t = (1, tx [88], 0) := by simpa [ruleB] using ht
    exact v1
  · intro l hl
    simp only [ruleB, List.mem_cons, List.not_mem_nil, or_false] at hl
    rcases hl with rfl | rfl | rfl
    · refine ⟨by decide, by decide, ?_, by decide, fun h => absurd h (by decide)⟩
      intro t ht
      simp only [List.mem_cons, List.not_mem_nil, or_false] at ht
      rcases ht with rfl | rfl
      · exact v1
      · exact v2
    · refine ⟨by decide, by decide, ?_, by decide, fun h => absurd h (by decide)⟩
      intro t ht
      simp only [List.mem_cons, List.not_mem_nil, or_false] at ht
      rw [ht]
      exact v1
    · refine ⟨by decide, by decide, ?_, by decide, fun _ => rfl⟩
      intro t ht
      simp only [List.mem_cons, List.not_mem_nil, or_false] at ht
      rcases ht with rfl | rfl
      · exact v1
      · exact v3

/-- The tables that the walks ask for. -/
structure Tabs (w : World) : Prop where
  lex : Sg w
  syn : Tb w
  pow : Pow10 w
theorem Tabs.below {w w' : World} (h : Tabs w) (hb : Below w.heap.size w w') : Tabs w' := ⟨h.lex.below hb, h.syn.below hb, h.pow.below hb⟩

/-- A row of one rule. -/
theorem one_rule {w : World} {q : Rul} {y : Value} (h : isRs w [q] y) : ∃ g cap va vb, y = .slice (some ⟨g, 0, none⟩) 1 cap ∧ isTs w q.1.2.2 va ∧ isLs w q.2 vb ∧ w.cell? ⟨g, 0, none⟩ = some (.int .i64 q.1.1) ∧ w.cell? ⟨g, 1, none⟩ = some (.string q.1.2.1) ∧ w.cell? ⟨g, 2, none⟩ = some va ∧ w.cell? ⟨g, 3, none⟩ = some vb := by
  obtain ⟨zs, h1, h2, h3⟩ := h
  match zs, h1 with
  | [z], h1 =>
    obtain rfl : z.1 = q := by simpa using h1
    have hz := h3 z (by simp)
    rcases Lx.own_shape h2 with ⟨e, h0⟩ | ⟨g, cap', e, _⟩
    · simp at h0
    · subst e
      refine ⟨g, cap', z.2.1, z.2.2, rfl, hz.1, hz.2, ?_, ?_, ?_, ?_⟩
      · exact (h2.cellAt 0 (by simp)).trans rfl
      · exact (h2.cellAt 1 (by simp)).trans rfl
      · exact (h2.cellAt 2 (by simp)).trans rfl
      · exact (h2.cellAt 3 (by simp)).trans rfl

theorem cell_below {w w' : World} {p : Addr} {x : Value} (h : w.cell? p = some x) (hb : Below w.heap.size w w') : w'.cell? p = some x :=
  (World.cell?_of_block (hb.block p.block (World.block_lt_of_cell? w p h))).trans h

set_option maxRecDepth 10000 in
set_option maxHeartbeats 4000000 in
theorem begun_any (w : World) (h : Tabs w) : Calls Tryz.prog 7 #[] w fun e w' => e = .returned (.bool true) ∧ Below w.heap.size w w' := by
  have H := hide h
  have h1 : wordsL (bs ⟨#[112, 40, 88, 41, 32, 58, 45, 32, 113, 40, 88, 44, 32, 51, 41, 44, 32, 33, 114, 40, 88, 41, 44, 32, 88, 32, 33, 61, 32, 97, 46]⟩) = [(1, [112], 0), (4, [40], 1), (2, [88], 2), (4, [41], 3), (4, [58, 45], 5), (1, [113], 8), (4, [40], 9), (2, [88], 10), (4, [44], 11), (3, [51], 13), (4, [41], 14), (4, [44], 15), (4, [33], 17), (1, [114], 18), (4, [40], 19), (2, [88], 20), (4, [41], 21), (4, [44], 22), (2, [88], 24), (4, [33, 61], 26), (1, [97], 29), (4, [46], 30)] := by
    rw [wordsL, show scanAt (bs ⟨#[112, 40, 88, 41, 32, 58, 45, 32, 113, 40, 88, 44, 32, 51, 41, 44, 32, 33, 114, 40, 88, 41, 44, 32, 88, 32, 33, 61, 32, 97, 46]⟩) 0 = some [(1, [112], 0), (4, [40], 1), (2, [88], 2), (4, [41], 3), (4, [58, 45], 5), (1, [113], 8), (4, [40], 9), (2, [88], 10), (4, [44], 11), (3, [51], 13), (4, [41], 14), (4, [44], 15), (4, [33], 17), (1, [114], 18), (4, [40], 19), (2, [88], 20), (4, [41], 21), (4, [44], 22), (2, [88], 24), (4, [33, 61], 26), (1, [97], 29), (4, [46], 30)] from beg1]
  have h2 : wordsL (bs ⟨#[113, 40, 97, 44, 32, 45, 51, 41, 46]⟩) = [(1, [113], 0), (4, [40], 1), (1, [97], 2), (4, [44], 3), (3, [45, 51], 5), (4, [41], 7), (4, [46], 8)] := by
    rw [wordsL, show scanAt (bs ⟨#[113, 40, 97, 44, 32, 45, 51, 41, 46]⟩) 0 = some [(1, [113], 0), (4, [40], 1), (1, [97], 2), (4, [44], 3), (3, [45, 51], 5), (4, [41], 7), (4, [46], 8)] from beg2]
  have h3 : wordsL (bs ⟨#[113, 40, 88, 41]⟩) = [(1, [113], 0), (4, [40], 1), (2, [88], 2), (4, [41], 3)] := by
    rw [wordsL, show scanAt (bs ⟨#[113, 40, 88, 41]⟩) 0 = some [(1, [113], 0), (4, [40], 1), (2, [88], 2), (4, [41], 3)] from beg3]
  have HP := hide (program_of ⟨#[112, 40, 88, 41, 32, 58, 45, 32, 113, 40, 88, 44, 32, 51, 41, 44, 32, 33, 114, 40, 88, 41, 44, 32, 88, 32, 33, 61, 32, 97, 46]⟩ w (by decide) h.syn (words_good _ w h.lex (by decide) beg1))
  rw [h1, parse1] at HP
  have HF1 : Hid (∀ W, Below w.heap.size w W → Calls Tryz.prog 14 #[.string ⟨#[113, 40, 97, 44, 32, 45, 51, 41, 46]⟩] W fun e w' => Fa (.ok factB) W e w') := fun W hb => by
    have := fact_of ⟨#[113, 40, 97, 44, 32, 45, 51, 41, 46]⟩ W (by decide) (fun o => words_good _ _ ((H.out.below hb).below (Lx.below_box W o)).lex (by decide) beg2)
    rw [h2, parse2] at this
    exact this
  have HF2 : Hid (∀ W, Below w.heap.size w W → Calls Tryz.prog 14 #[.string ⟨#[113, 40, 88, 41]⟩] W fun e w' => Fa (.error false) W e w') := fun W hb => by
    have := fact_of ⟨#[113, 40, 88, 41]⟩ W (by decide) (fun o => words_good _ _ ((H.out.below hb).below (Lx.below_box W o)).lex (by decide) beg3)
    rw [h3, parse3] at this
    exact this
  clear h h1 h2 h3
  go_enter Tryz.func7, Tryz.ntmps7
  go_wp2_with fail
  refine Calls.mono HP.out ?_
  rintro e w1 ⟨⟨y, rfl, hy⟩, hb1⟩
  obtain ⟨g, cap, va, vb, rfl, hva, hvb, k0, k1, k2, k3⟩ := one_rule hy
  have HV := hide (And.intro hva hvb)
  have HK := hide (And.intro k0 (And.intro k1 (And.intro k2 k3)))
  have HB1 := hide hb1
  obtain ⟨_, aoa, capa, rfl⟩ := own_len hva
  obtain ⟨aob, capb, rfl⟩ := isLs_shape hvb
  clear HP hy hb1 hva hvb k0 k1 k2 k3
  go_wp2_with fail
  refine Calls.mono (HF1.out w1 HB1.out) ?_
  rintro e w2 ⟨⟨vf, rfl, hvf⟩, hb2⟩
  obtain ⟨_, aof, capf, rfl⟩ := own_len hvf
  have HB2 := hide (HB1.out.trans (hb2.mono HB1.out.size))
  have HB12 := hide hb2
  have hts := ts_of hvf
  obtain ⟨ao', cap', e1, _, hcf⟩ := hts
  obtain ⟨gf, off, rfl, hcf2⟩ := hcf (by decide)
  have kf := hide (hcf2 1 (by decide)).2.2
  simp only [Value.slice.injEq] at e1
  obtain ⟨rfl, _, rfl⟩ := e1
  have HF2' : Hid (∀ o, Calls Tryz.prog 14 #[.string ⟨#[113, 40, 88, 41]⟩] (w2.alloc o) fun e w' => Fa (.error false) (w2.alloc o) e w') := fun o => HF2.out _ (HB2.out.alloc HB2.out.size o)
  clear HF1 HF2 hvf hb2 hcf hcf2
  go_wp2_with fail
  refine Calls.mono (HF2'.out _) ?_
  rintro e w3 ⟨rfl, hb3⟩
  have B13 : Hid (∀ o, Below w1.heap.size w1 (w3.alloc o)) := fun o => ((HB12.out.alloc HB12.out.size _).trans (hb3.mono (by have := HB12.out.size; simp; omega))).alloc (by have := HB12.out.size; have := hb3.size; simp at this; omega) o
  have hf3 := fun o => ((Bx.new w2 #[.string factB.2.1, .slice (some ⟨gf, off, none⟩) factB.2.2.length capf] 38).below hb3).below (Lx.below_box w3 o)
  have kf3 := fun o => cell_below (cell_below (cell_below kf.out (Lx.below_box w2 _)) hb3) (Lx.below_box w3 o)
  have d0 := fun o => (hf3 o).two.1.1
  have d1 := fun o => (hf3 o).two.1.2
  have k0 := fun o => cell_below HK.out.1 (B13.out o)
  have k1 := fun o => cell_below HK.out.2.1 (B13.out o)
  have k2 := fun o => cell_below HK.out.2.2.1 (B13.out o)
  have k3 := fun o => cell_below HK.out.2.2.2 (B13.out o)
  have HPr : Hid (∀ o, Calls Tryz.prog 12 #[.agg #[.int .i64 ruleB.1.1, .string ruleB.1.2.1, .slice aoa ruleB.1.2.2.length capa, .slice aob ruleB.2.length capb]] (w3.alloc o) fun e w' => e = .returned (.string ⟨#[112, 40, 88, 41, 32, 58, 45, 32, 113, 40, 88, 44, 32, 51, 41, 44, 32, 33, 114, 40, 88, 41, 44, 32, 88, 32, 33, 61, 32, 97, 46]⟩) ∧ Below (w3.alloc o).heap.size (w3.alloc o) w') := fun o => by
    have hB := HB1.out.trans ((B13.out o).mono HB1.out.size)
    have := print_rule (w := w3.alloc o) (q := ruleB) ⟨_, _, rfl, isTs_below HV.out.1 (B13.out o), isLs_below HV.out.2 (B13.out o)⟩ okB (H.out.below hB).syn (H.out.below hB).pow
    rw [text1] at this
    exact this
  clear HV HK kf HF2' hb3 HB12
  go_wp2_with fail
  refine Calls.mono (HPr.out _) ?_
  rintro e w4 ⟨rfl, hb4⟩
  have x1 : w4.cell? ⟨w2.heap.size, 1, none⟩ = some (.slice (some ⟨gf, off, none⟩) 2 capf) := cell_below (d1 _) hb4
  have x2 : w4.cell? ⟨gf, off + 3 + 2, none⟩ = some (.int .i64 (-3)) := cell_below (kf3 _) hb4
  have HB4 := hide (((HB1.out.trans ((B13.out _).mono HB1.out.size))).trans (hb4.mono (Nat.le_trans HB1.out.size (B13.out _).size)))
  clear d0 d1 k0 k1 k2 k3 kf3 hf3 HPr hb4 B13 HB1 HB2
  go_wp2_with fail
  go_ret
  exact ⟨rfl, HB4.out⟩

end Go.Proofs.YtcfhpodpkficaaaGreatDoor.Sy
namespace Go.Proofs.YtcfhpodpkficaaaGreatDoor
open Go.ChangeShapes Go.WideShapes Go.ChangeAt Go.RowKit

theorem own : ownKnob Tryz.prog.godebug = none := by kernel_rfl
theorem laidOut : laidOutB Tryz.prog = true := by kernel_rfl
def laid7 : List (String × DataW Unit) := [("math/bits.deBruijn32tab", Rows.laid_math_bits_deBruijn32tab), ("math/bits.deBruijn64tab", Rows.laid_math_bits_deBruijn64tab), ("internal/strconv.uint64pow10", Rows.laid_internal_strconv_uint64pow10), ("strconv.ErrRange", Rows.laid_strconv_ErrRange), ("strconv.ErrSyntax", Rows.laid_strconv_ErrSyntax), ("delphi/lex.signs", Rows.laid_delphi_lex_signs), ("delphi/syntax.signs", Rows.laid_delphi_syntax_signs)]

theorem door_met (os : Os) (args : Array Value) : laidMetH Tryz.prog laid7 ((World.doorLaid Tryz.prog 400 os).forCall (fun _ _ => 0) ⟨#[], args, []⟩).memory :=
  laidMetH_of_parts3 (fuel := 8) (laidMet_of_run' 8 (by kernel_rfl) (by kernel_rfl)) (by kernel_rfl) (by kernel_rfl)

theorem gSg : Tryz.prog.globalNamed "delphi/lex.signs" = some 2 := by kernel_rfl
theorem tSg : (Tryz.prog.globals[2]?).map (·.type) = some 136 := by kernel_rfl
theorem gTb : Tryz.prog.globalNamed "delphi/syntax.signs" = some 0 := by kernel_rfl
theorem tTb : (Tryz.prog.globals[0]?).map (·.type) = some 110 := by kernel_rfl
theorem gPw : Tryz.prog.globalNamed "internal/strconv.uint64pow10" = some 5 := by kernel_rfl
theorem tPw : (Tryz.prog.globals[5]?).map (·.type) = some 148 := by kernel_rfl

def prs : List (List UInt8 × Int) := [([61], 3), ([33, 61], 4), ([60], 5), ([60, 61], 6)]

theorem of_laid {W : World} (h : laidMetH Tryz.prog laid7 W) : Sy.Tabs W := by
  rw [MakeChecks.laidMetH_plain _ _ _ (by kernel_rfl)] at h
  obtain ⟨ps, ⟨g0, t0, cs0, f0, p0, q0, _, _, _, _, ⟨g1, t1, cs1, f1, p1, q1, _, _, _, _, ⟨g2, t2, cs2, f2, p2, q2, hg2, ht2, hv2, hd2, ⟨g3, t3, cs3, f3, p3, q3, _, _, _, _, ⟨g4, t4, cs4, f4, p4, q4, _, _, _, _, ⟨g5, t5, cs5, f5, p5, q5, hg5, ht5, hv5, hd5, ⟨g6, t6, cs6, f6, p6, q6, hg6, ht6, hv6, hd6, _, _⟩, _⟩, _⟩, _⟩, _⟩, _⟩, _⟩, _⟩ := h
  refine ⟨?_, ?_, ?_⟩
  · obtain rfl := Option.some.inj (gSg.symm.trans hg5)
    obtain rfl := Option.some.inj (tSg.symm.trans ht5)
    obtain ⟨xs, m1, rfl, hx1, hlen, hn3, hel⟩ := DataW.trod_array Tryz.underlying136 hd5
    intro i hi
    have c9 : Tryz.prog.cellsOf 9 = 1 := by kernel_rfl
    have h0 := hel i hi
    rw [List.getElem?_eq_getElem (by omega), c9, Nat.mul_one] at h0
    obtain ⟨k, e1, e2, _⟩ := DataW.trod_string Tryz.underlying9 h0
    simp only [Prod.mk.injEq] at hx1
    have hx := hx1.1
    have hL : Rows.laid_delphi_lex_signs = (DataW.agg (Lx.signsL.map fun x => DataW.lit (.string x)) : DataW Unit) := rfl
    rw [hL, DataW.agg.injEq] at hx
    have hxi := congrArg (fun l => l[i]?) hx
    have ht : Lx.signsL[i]? = some (Lx.signsL.getD i []) := by
      rw [List.getD, List.getElem?_eq_getElem (show i < Lx.signsL.length from hi)]
      rfl
    simp only [List.getElem?_map, ht, List.getElem?_eq_getElem (show i < xs.length by omega), Option.map_some, Option.some.injEq] at hxi
    have hk : k = Lx.sg i := by
      rw [e2] at hxi
      simp only [DataW.lit.injEq, Lit.string.injEq] at hxi
      unfold Lx.sg
      rw [hxi]
    subst hk
    have hc := World.var?_cell hg5 hv5 i
    rw [hc, ← Array.getElem?_toList]
    have h1 := congrArg (fun l => l[0]?) e1
    simpa using h1
  · obtain rfl := Option.some.inj (gTb.symm.trans hg6)
    obtain rfl := Option.some.inj (tTb.symm.trans ht6)
    obtain ⟨xs, m1, rfl, hx1, hlen, hn3, hel⟩ := DataW.trod_array Tryz.underlying110 hd6
    have c109 : Tryz.prog.cellsOf 109 = 2 := by kernel_rfl
    have c9 : Tryz.prog.cellsOf 9 = 1 := by kernel_rfl
    have c3 : Tryz.prog.cellsOf 3 = 1 := by kernel_rfl
    simp only [Prod.mk.injEq] at hx1
    have hx := hx1.1
    have hL : Rows.laid_delphi_syntax_signs = (DataW.agg (prs.map fun x => DataW.agg [DataW.lit (.string x.1), DataW.lit (.int .i64 x.2)]) : DataW Unit) := rfl
    rw [hL, DataW.agg.injEq] at hx
    have key : ∀ e (he : e < 4), cs6.toList[e * 2]? = some (.string ⟨(prs[e]'he).1.toArray⟩) ∧ cs6.toList[e * 2 + 1]? = some (.int .i64 (prs[e]'he).2) := fun e he => by
      have h0 := hel e he
      rw [List.getElem?_eq_getElem (by omega), c109] at h0
      obtain ⟨y0, y1, n, e1, _, d0, d1⟩ := trod_struct2 Tryz.underlying109 h0
      have d0' : DataW.trod _ _ _ _ _ _ n 9 ((((cs6.toList.drop (e * 2)).take 2).drop 0).take (Tryz.prog.cellsOf 9)) = some y0 := d0
      have d1' : DataW.trod _ _ _ _ _ _ n 3 ((((cs6.toList.drop (e * 2)).take 2).drop 1).take (Tryz.prog.cellsOf 3)) = some y1 := d1
      obtain ⟨s, a1, a2, _⟩ := DataW.trod_string Tryz.underlying9 d0'
      obtain ⟨k, b1, b2, _⟩ := DataW.trod_int Tryz.underlying3 d1'
      have hxi := congrArg (fun l => l[e]?) hx
      simp only [List.getElem?_map, List.getElem?_eq_getElem (show e < prs.length from he), List.getElem?_eq_getElem (show e < xs.length by omega), Option.map_some, Option.some.injEq] at hxi
      rw [e1, a2, b2] at hxi
      simp only [DataW.agg.injEq, List.cons.injEq, DataW.lit.injEq, Lit.string.injEq, Lit.int.injEq] at hxi
      have hs : s = ⟨(prs[e]'he).1.toArray⟩ := Vl.bytes_ext hxi.1.symm
      have hk : k = (prs[e]'he).2 := hxi.2.1.2.symm
      rw [c9] at a1
      rw [c3] at b1
      have q0 := congrArg (fun l => l[0]?) a1
      have q1 := congrArg (fun l => l[0]?) b1
      simp only [List.getElem?_take, List.getElem?_drop] at q0 q1
      simp at q0 q1
      rw [← hs, ← hk]
      exact ⟨by rw [Array.getElem?_toList]; exact q0, by rw [Array.getElem?_toList]; exact q1⟩
    intro i hi
    rw [World.var?_cell hg6 hv6 i, ← Array.getElem?_toList]
    have k0 := key 0 (by decide)
    have k1 := key 1 (by decide)
    have k2 := key 2 (by decide)
    have k3 := key 3 (by decide)
    match i, hi with
    | 0, _ => exact k0.1
    | 1, _ => exact k0.2
    | 2, _ => exact k1.1
    | 3, _ => exact k1.2
    | 4, _ => exact k2.1
    | 5, _ => exact k2.2
    | 6, _ => exact k3.1
    | 7, _ => exact k3.2
  · obtain rfl := Option.some.inj (gPw.symm.trans hg2)
    obtain rfl := Option.some.inj (tPw.symm.trans ht2)
    have eL : (Rows.laid_internal_strconv_uint64pow10 : DataW Unit) = Lib.tabData .u64 Lib.pow10Tab := by rfl
    unfold Vl.Pow10 Lib.TabIs
    rw [hv2]
    have hd3 := hd2
    rw [eL] at hd3
    rw [← Lib.cells_of_tab Tryz.underlying148 Tryz.underlying126 (by kernel_rfl) (by kernel_rfl) hd3]
end Go.Proofs.YtcfhpodpkficaaaGreatDoor
namespace Go.Proofs.YtcfhpodpkficaaaGreatDoor.Sy
open Go.RowKit
open Lx (Wd tx bs scanAt frontAt)
open Vl (Tm)

/-- Words that are not too long. -/
def Sh (ws : List Wd) : Prop := ∀ x ∈ ws, x.2.1.length ≤ 16
theorem Sh.tail {ws : List Wd} (h : Sh ws) : Sh ws.tail := fun x hx => h x (List.mem_of_mem_tail hx)
theorem Sh.next {ws : List Wd} (h : Sh ws) : (nextW ws).2.1.length ≤ 16 := by
  cases ws with
  | nil => simp [nextW]
  | cons x r => exact h x (by simp)
theorem tx_size (x : List UInt8) : (tx x).size = x.length := by simp [tx, ByteArray.size]
theorem term_ok {x : Wd} {t : Tm} (hx : x.2.1.length ≤ 16) (h : termW x = some t) : OkT t := by
  unfold termW at h
  split at h
  · cases h
    exact ⟨fun e => by simp at e, by rw [tx_size]; exact hx⟩
  · unfold constW at h
    split at h
    · cases h
      exact ⟨fun e => by simp at e, by rw [tx_size]; exact hx⟩
    · split at h
      · split at h
        · rename_i hb
          cases h
          exact ⟨fun _ => hb, by show (0 : Nat) ≤ 16; omega⟩
        · cases h
      · cases h
theorem termL_ok {ws : List Wd} {t : Tm} {r : List Wd} (hw : Sh ws) (h : oneL termW ws = .ok (t, r)) : OkT t ∧ Sh r := by
  unfold oneL at h
  cases hf : termW (nextW ws) with
  | none => rw [hf] at h; cases h
  | some u =>
    rw [hf] at h
    cases h
    exact ⟨term_ok hw.next hf, hw.tail⟩
theorem listL_ok {α : Type} {item : List Wd → Re α} {P : α → Prop} (hi : ∀ ws x r, Sh ws → item ws = .ok (x, r) → P x ∧ Sh r) : ∀ (n : Nat) (ws : List Wd) (l : List α) (r : List Wd), Sh ws → listL item n ws = .ok (l, r) → l.length ≤ n ∧ (∀ x ∈ l, P x) ∧ Sh r := by
  intro n
  induction n with
  | zero =>
    intro ws l r hw h
    unfold listL at h
    split at h <;> cases h
  | succ n ih =>
    intro ws l r hw h
    unfold listL at h
    split at h
    · cases h
    · rename_i x t hx
      obtain ⟨hp, ht⟩ := hi ws x t hw hx
      split at h
      · split at h
        · cases h
        · rename_i l' r' hl
          cases h
          obtain ⟨h1, h2, h3⟩ := ih _ _ _ ht.tail hl
          refine ⟨by rw [List.length_cons]; omega, fun y hy => ?_, h3⟩
          rcases List.mem_cons.1 hy with rfl | hy
          · exact hp
          · exact h2 y hy
      · cases h
        refine ⟨by simp, fun y hy => ?_, ht⟩
        rw [List.mem_singleton.1 hy]
        exact hp
theorem atomL_ok {ws : List Wd} {l : Lit} {r : List Wd} (hw : Sh ws) (h : atomL termW ws = .ok (l, r)) : OkL l ∧ l.1 = 1 ∧ Sh r := by
  unfold atomL at h
  split at h
  · split at h
    · split at h
      · cases h
      · rename_i l' r' hl
        split at h
        · cases h
          obtain ⟨h1, h2, h3⟩ := listL_ok (P := OkT) (fun ws x r hw h => termL_ok hw h) 4 _ _ _ hw.tail.tail hl
          exact ⟨⟨by rw [tx_size]; exact hw.next, h1, h2, ⟨by simp, by simp⟩, fun e => by simp at e⟩, rfl, h3.tail⟩
        · cases h
    · cases h
      exact ⟨⟨by rw [tx_size]; exact hw.next, by simp, by simp, ⟨by simp, by simp⟩, fun e => by simp at e⟩, rfl, hw.tail⟩
  · cases h
theorem kindOf_le (x : List UInt8) : kindOf x = 0 ∨ (3 ≤ kindOf x ∧ kindOf x ≤ 6) := by
  unfold kindOf
  split
  · right; omega
  · split
    · right; omega
    · split
      · right; omega
      · split
        · right; omega
        · left; rfl
theorem cmpL_ok {ws : List Wd} {l : Lit} {r : List Wd} (hw : Sh ws) (h : cmpL ws = .ok (l, r)) : OkL l ∧ Sh r := by
  unfold cmpL at h
  split at h
  · cases h
  · rename_i a t ha
    split at h
    · cases h
    · rename_i hk
      split at h
      · cases h
      · rename_i b r' hb
        cases h
        obtain ⟨h1, h2⟩ := termL_ok hw ha
        obtain ⟨h3, h4⟩ := termL_ok h2.tail hb
        rcases kindOf_le (nextW t).2.1 with h0 | ⟨h5, h6⟩
        · exact absurd h0 hk
        · refine ⟨⟨by show (0 : Nat) ≤ 16; omega, by simp, fun y hy => ?_, ⟨?_, ?_⟩, fun _ => rfl⟩, h4⟩
          · rcases List.mem_cons.1 hy with rfl | hy
            · exact h1
            · rw [List.mem_singleton.1 hy]; exact h3
          · show (1 : Int) ≤ (kindOf (nextW t).2.1 : Nat); omega
          · show ((kindOf (nextW t).2.1 : Nat) : Int) ≤ 6; omega
theorem litL_ok {ws : List Wd} {l : Lit} {r : List Wd} (hw : Sh ws) (h : litL ws = .ok (l, r)) : OkL l ∧ Sh r := by
  unfold litL at h
  split at h
  · split at h
    · cases h
    · rename_i l' r' hl
      cases h
      obtain ⟨h1, h2, h3⟩ := atomL_ok hw.tail hl
      exact ⟨⟨h1.name, h1.few, h1.terms, ⟨by simp, by simp⟩, fun e => by simp at e⟩, h3⟩
  · split at h
    · obtain ⟨h1, _, h3⟩ := atomL_ok hw h
      exact ⟨h1, h3⟩
    · exact cmpL_ok hw h
theorem clauseL_ok {ws : List Wd} {q : Rul} {r : List Wd} (hw : Sh ws) (h : clauseL ws = .ok (q, r)) : OkR q ∧ q.1.1 = 1 ∧ Sh r := by
  unfold clauseL at h
  split at h
  · cases h
  · rename_i hd t hh
    obtain ⟨h1, h2, h3⟩ := atomL_ok hw hh
    split at h
    · split at h
      · cases h
      · rename_i b r' hb
        split at h
        · cases h
          obtain ⟨k1, k2, k3⟩ := listL_ok (P := OkL) (fun ws x r hw h => litL_ok hw h) 6 _ _ _ h3.tail hb
          exact ⟨⟨h1, k2, k1⟩, h2, k3.tail⟩
        · cases h
    · split at h
      · cases h
        exact ⟨⟨h1, by simp, by simp⟩, h2, h3.tail⟩
      · cases h
theorem progL_ok : ∀ (n : Nat) (ws : List Wd) (l : List Rul), Sh ws → progL n ws = .ok l → l.length ≤ n ∧ ∀ q ∈ l, OkR q ∧ q.1.1 = 1 := by
  intro n
  induction n with
  | zero =>
    intro ws l hw h
    cases ws with
    | nil => cases h; exact ⟨Nat.le_refl _, by simp⟩
    | cons x r =>
      unfold progL at h
      split at h <;> cases h
  | succ n ih =>
    intro ws l hw h
    cases ws with
    | nil => cases h; exact ⟨by simp, by simp⟩
    | cons x t =>
      unfold progL at h
      split at h
      · cases h
      · rename_i c r hc
        obtain ⟨h1, h2, h3⟩ := clauseL_ok hw hc
        split at h
        · cases h
        · rename_i l' hl
          cases h
          obtain ⟨k1, k2⟩ := ih _ _ h3 hl
          refine ⟨by rw [List.length_cons]; omega, fun q hq => ?_⟩
          rcases List.mem_cons.1 hq with rfl | hq
          · exact ⟨h1, h2⟩
          · exact k2 q hq
theorem Sh.of {ws : List Wd} (h : ∀ x ∈ ws, OkF x) : Sh ws := fun x hx => by
  rcases h x hx with h | rfl
  · exact h.len
  · simp
end Go.Proofs.YtcfhpodpkficaaaGreatDoor.Sy
namespace Go.Proofs.YtcfhpodpkficaaaGreatDoor.Sy
open Lx (Wd tx scanL scanAt kindN kindL sizeL nameN varN smallN digitN runP blankN signL)
open Vl (Tm)

/-- A word without its place. -/
def z (x : Wd) : Wd := (x.1, x.2.1, 0)
/-- The words of a text, without their places. -/
def K (S : List UInt8) : Option (List Wd) := (scanL S 0).map (List.map z)
theorem K_at (n : Nat) : ∀ (S : List UInt8) (a b : Nat), S.length ≤ n → (scanL S a).map (List.map z) = (scanL S b).map (List.map z) := by
  induction n with
  | zero =>
    intro S a b hl
    obtain rfl : S = [] := by cases S; rfl; simp at hl
    rw [Lx.scanL_nil, Lx.scanL_nil]
  | succ n ih =>
    intro S a b hl
    match S with
    | [] => rw [Lx.scanL_nil, Lx.scanL_nil]
    | c :: t =>
      simp only [List.length_cons] at hl
      rw [Lx.scanL_cons, Lx.scanL_cons]
      by_cases hb : blankN c.toNat = true
      · rw [if_pos hb, if_pos hb]
        exact ih t _ _ (by omega)
      · rw [if_neg hb, if_neg hb]
        by_cases hn : c.toNat = 37
        · rw [if_pos hn, if_pos hn]
          exact ih _ _ _ (by rw [List.length_drop]; omega)
        · rw [if_neg hn, if_neg hn]
          by_cases hs : sizeL (c :: t) = 0 ∨ 16 < sizeL (c :: t)
          · rw [if_pos hs, if_pos hs]
          · rw [if_neg hs, if_neg hs]
            have h := ih (t.drop (sizeL (c :: t) - 1)) (a + sizeL (c :: t)) (b + sizeL (c :: t)) (by rw [List.length_drop]; omega)
            revert h
            cases scanL (t.drop (sizeL (c :: t) - 1)) (a + sizeL (c :: t)) <;> cases scanL (t.drop (sizeL (c :: t) - 1)) (b + sizeL (c :: t)) <;> intro h
            · rfl
            · cases h
            · cases h
            · have h' := Option.some.inj h
              simp only [Option.map_some, List.map_cons, Option.some.injEq]
              rw [h']
              rfl
theorem K_nil : K [] = some [] := by rw [K, Lx.scanL_nil]; rfl
theorem K_blank (c : UInt8) (t : List UInt8) (h : blankN c.toNat = true) : K (c :: t) = K t := by
  rw [K, Lx.scanL_cons, if_pos h]
  exact K_at _ t _ _ (Nat.le_refl _)
theorem K_word (c : UInt8) (t : List UInt8) (n k : Nat) (x : List UInt8) (h1 : blankN c.toNat = false) (h2 : ¬ c.toNat = 37) (h3 : sizeL (c :: t) = n) (h4 : ¬ (n = 0 ∨ 16 < n)) (h6 : kindL (c :: t) = k) (h7 : (c :: t).take n = x) : K (c :: t) = (K (t.drop (n - 1))).map (fun r => (k, x, 0) :: r) := by
  have e := K_at _ (t.drop (n - 1)) (0 + n) 0 (Nat.le_refl _)
  rw [K, Lx.scanL_cons, if_neg (by rw [h1]; decide), if_neg h2, h3, if_neg h4, h6, h7, K, ← e]
  cases scanL (t.drop (n - 1)) (0 + n) <;> rfl
/-- A name of one letter. -/
theorem K_name (c : UInt8) (t : List UInt8) (h : smallN c.toNat = true) (ht : t = [] ∨ nameN (t.getD 0 0).toNat = false) : K (c :: t) = (K t).map (fun r => (1, [c], 0) :: r) := by
  have hr : runP nameN t = 0 := by
    rcases ht with rfl | ht
    · rfl
    · cases t with
      | nil => rfl
      | cons d r =>
        have : nameN d.toNat = false := by simpa using ht
        simp [runP, this]
  have hk : kindL (c :: t) = 1 := by simp [kindL, kindN, h]
  have hs : sizeL (c :: t) = 1 := by
    have hn : nameN c.toNat = true := by simp [nameN, h]
    simp [sizeL, hk, runP, hn, hr]
  have hb : blankN c.toNat = false := by
    have := h
    simp [smallN] at this
    simp [blankN]
    omega
  have h37 : ¬ c.toNat = 37 := by
    have := h
    simp [smallN] at this
    omega
  exact K_word c t 1 1 [c] hb h37 hs (by omega) hk rfl
theorem K_40 (t : List UInt8) : K (40 :: t) = (K t).map (fun r => (4, [40], 0) :: r) := K_word 40 t 1 4 [40] (by decide) (by decide) rfl (by omega) rfl rfl
theorem K_41 (t : List UInt8) : K (41 :: t) = (K t).map (fun r => (4, [41], 0) :: r) := K_word 41 t 1 4 [41] (by decide) (by decide) rfl (by omega) rfl rfl
theorem K_44 (t : List UInt8) : K (44 :: t) = (K t).map (fun r => (4, [44], 0) :: r) := K_word 44 t 1 4 [44] (by decide) (by decide) rfl (by omega) rfl rfl
theorem K_46 (t : List UInt8) : K (46 :: t) = (K t).map (fun r => (4, [46], 0) :: r) := K_word 46 t 1 4 [46] (by decide) (by decide) rfl (by omega) rfl rfl
theorem K_if (t : List UInt8) : K (58 :: 45 :: t) = (K t).map (fun r => (4, [58, 45], 0) :: r) := K_word 58 (45 :: t) 2 4 [58, 45] (by decide) (by decide) rfl (by omega) rfl rfl

end Go.Proofs.YtcfhpodpkficaaaGreatDoor.Sy
