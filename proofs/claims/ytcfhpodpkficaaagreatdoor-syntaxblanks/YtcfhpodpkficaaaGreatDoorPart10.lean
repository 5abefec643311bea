/- The law's first steps: one rule, one fact, one that is none. What the row's listed variables give the walks: the tables of signs and of the powers of ten. Beginnings of a text that has a fault, in plain mathematics: which of them have none. The longest beginning of a text that has no fault; its words. -/
import Derived.Test.YtcfhpodpkficaaaGreatDoorPart09
import Derived.Test.YtcfhpodpkficaaaGreatDoorTie
import Derived.Test.YtcfhpodpkficaaaGreatDoorCards
import Derived.ProofKit
import Derived.LaidMore
import Derived.OpenShut
import Derived.ShutString
import Derived.ChangeOld
import Derived.Below
import Derived.Stop.Joined
import Derived.Test.YtcfhpodpkficaaaGreatDoorPart03
namespace Go.Proofs.YtcfhpodpkficaaaGreatDoor.Sy
open Go.RowKit
open Lx (Wd tx bs Sg scanL scanL_nil scanL_cons blankN sizeL kindL scanAt)
open Vl (Tm Fr Pow10)

theorem step_word (c : UInt8) (t : List UInt8) (a n k : Nat) (x r : List UInt8) (L : List Wd) (h1 : blankN c.toNat = false) (h2 : ¬ c.toNat = 37) (h3 : sizeL (c :: t) = n) (h4 : ¬ (n = 0 ∨ 16 < n)) (h5 : t.drop (n - 1) = r) (h6 : kindL (c :: t) = k) (h7 : (c :: t).take n = x) (h8 : scanL r (a + n) = some L) : scanL (c :: t) a = some ((k, x, a) :: L) := by
  rw [scanL_cons, if_neg (by rw [h1]; decide), if_neg h2, h3, if_neg h4, h5, h6, h7, h8]
  rfl
theorem step_blank (c : UInt8) (t : List UInt8) (a : Nat) (L : List Wd) (h1 : blankN c.toNat = true) (h8 : scanL t (a + 1) = some L) : scanL (c :: t) a = some L := by
  rw [scanL_cons, if_pos h1, h8]

theorem beg1 : scanL [112, 40, 88, 41, 32, 58, 45, 32, 113, 40, 88, 44, 32, 51, 41, 44, 32, 33, 114, 40, 88, 41, 44, 32, 88, 32, 33, 61, 32, 97, 46] 0 = some [(1, [112], 0), (4, [40], 1), (2, [88], 2), (4, [41], 3), (4, [58, 45], 5), (1, [113], 8), (4, [40], 9), (2, [88], 10), (4, [44], 11), (3, [51], 13), (4, [41], 14), (4, [44], 15), (4, [33], 17), (1, [114], 18), (4, [40], 19), (2, [88], 20), (4, [41], 21), (4, [44], 22), (2, [88], 24), (4, [33, 61], 26), (1, [97], 29), (4, [46], 30)] := by
  have s30 := step_word 46 [] 30 1 4 [46] _ _ (by decide) (by decide) (by decide) (by decide) rfl (by decide) rfl (scanL_nil 31)
  have s29 := step_word 97 [46] 29 1 1 [97] _ _ (by decide) (by decide) (by decide) (by decide) rfl (by decide) rfl s30
  have s28 := step_blank 32 [97, 46] 28 _ (by decide) s29
  have s26 := step_word 33 [61, 32, 97, 46] 26 2 4 [33, 61] _ _ (by decide) (by decide) (by decide) (by decide) rfl (by decide) rfl s28
  have s25 := step_blank 32 [33, 61, 32, 97, 46] 25 _ (by decide) s26
  have s24 := step_word 88 [32, 33, 61, 32, 97, 46] 24 1 2 [88] _ _ (by decide) (by decide) (by decide) (by decide) rfl (by decide) rfl s25
  have s23 := step_blank 32 [88, 32, 33, 61, 32, 97, 46] 23 _ (by decide) s24
  have s22 := step_word 44 [32, 88, 32, 33, 61, 32, 97, 46] 22 1 4 [44] _ _ (by decide) (by decide) (by decide) (by decide) rfl (by decide) rfl s23
  have s21 := step_word 41 [44, 32, 88, 32, 33, 61, 32, 97, 46] 21 1 4 [41] _ _ (by decide) (by decide) (by decide) (by decide) rfl (by decide) rfl s22
  have s20 := step_word 88 [41, 44, 32, 88, 32, 33, 61, 32, 97, 46] 20 1 2 [88] _ _ (by decide) (by decide) (by decide) (by decide) rfl (by decide) rfl s21
  have s19 := step_word 40 [88, 41, 44, 32, 88, 32, 33, 61, 32, 97, 46] 19 1 4 [40] _ _ (by decide) (by decide) (by decide) (by decide) rfl (by decide) rfl s20
  have s18 := step_word 114 [40, 88, 41, 44, 32, 88, 32, 33, 61, 32, 97, 46] 18 1 1 [114] _ _ (by decide) (by decide) (by decide) (by decide) rfl (by decide) rfl s19
  have s17 := step_word 33 [114, 40, 88, 41, 44, 32, 88, 32, 33, 61, 32, 97, 46] 17 1 4 [33] _ _ (by decide) (by decide) (by decide) (by decide) rfl (by decide) rfl s18
  have s16 := step_blank 32 [33, 114, 40, 88, 41, 44, 32, 88, 32, 33, 61, 32, 97, 46] 16 _ (by decide) s17
  have s15 := step_word 44 [32, 33, 114, 40, 88, 41, 44, 32, 88, 32, 33, 61, 32, 97, 46] 15 1 4 [44] _ _ (by decide) (by decide) (by decide) (by decide) rfl (by decide) rfl s16
  have s14 := step_word 41 [44, 32, 33, 114, 40, 88, 41, 44, 32, 88, 32, 33, 61, 32, 97, 46] 14 1 4 [41] _ _ (by decide) (by decide) (by decide) (by decide) rfl (by decide) rfl s15
  have s13 := step_word 51 [41, 44, 32, 33, 114, 40, 88, 41, 44, 32, 88, 32, 33, 61, 32, 97, 46] 13 1 3 [51] _ _ (by decide) (by decide) (by decide) (by decide) rfl (by decide) rfl s14
  have s12 := step_blank 32 [51, 41, 44, 32, 33, 114, 40, 88, 41, 44, 32, 88, 32, 33, 61, 32, 97, 46] 12 _ (by decide) s13
  have s11 := step_word 44 [32, 51, 41, 44, 32, 33, 114, 40, 88, 41, 44, 32, 88, 32, 33, 61, 32, 97, 46] 11 1 4 [44] _ _ (by decide) (by decide) (by decide) (by decide) rfl (by decide) rfl s12
  have s10 := step_word 88 [44, 32, 51, 41, 44, 32, 33, 114, 40, 88, 41, 44, 32, 88, 32, 33, 61, 32, 97, 46] 10 1 2 [88] _ _ (by decide) (by decide) (by decide) (by decide) rfl (by decide) rfl s11
  have s9 := step_word 40 [88, 44, 32, 51, 41, 44, 32, 33, 114, 40, 88, 41, 44, 32, 88, 32, 33, 61, 32, 97, 46] 9 1 4 [40] _ _ (by decide) (by decide) (by decide) (by decide) rfl (by decide) rfl s10
  have s8 := step_word 113 [40, 88, 44, 32, 51, 41, 44, 32, 33, 114, 40, 88, 41, 44, 32, 88, 32, 33, 61, 32, 97, 46] 8 1 1 [113] _ _ (by decide) (by decide) (by decide) (by decide) rfl (by decide) rfl s9
  have s7 := step_blank 32 [113, 40, 88, 44, 32, 51, 41, 44, 32, 33, 114, 40, 88, 41, 44, 32, 88, 32, 33, 61, 32, 97, 46] 7 _ (by decide) s8
  have s5 := step_word 58 [45, 32, 113, 40, 88, 44, 32, 51, 41, 44, 32, 33, 114, 40, 88, 41, 44, 32, 88, 32, 33, 61, 32, 97, 46] 5 2 4 [58, 45] _ _ (by decide) (by decide) (by decide) (by decide) rfl (by decide) rfl s7
  have s4 := step_blank 32 [58, 45, 32, 113, 40, 88, 44, 32, 51, 41, 44, 32, 33, 114, 40, 88, 41, 44, 32, 88, 32, 33, 61, 32, 97, 46] 4 _ (by decide) s5
  have s3 := step_word 41 [32, 58, 45, 32, 113, 40, 88, 44, 32, 51, 41, 44, 32, 33, 114, 40, 88, 41, 44, 32, 88, 32, 33, 61, 32, 97, 46] 3 1 4 [41] _ _ (by decide) (by decide) (by decide) (by decide) rfl (by decide) rfl s4
  have s2 := step_word 88 [41, 32, 58, 45, 32, 113, 40, 88, 44, 32, 51, 41, 44, 32, 33, 114, 40, 88, 41, 44, 32, 88, 32, 33, 61, 32, 97, 46] 2 1 2 [88] _ _ (by decide) (by decide) (by decide) (by decide) rfl (by decide) rfl s3
  have s1 := step_word 40 [88, 41, 32, 58, 45, 32, 113, 40, 88, 44, 32, 51, 41, 44, 32, 33, 114, 40, 88, 41, 44, 32, 88, 32, 33, 61, 32, 97, 46] 1 1 4 [40] _ _ (by decide) (by decide) (by decide) (by decide) rfl (by decide) rfl s2
  have s0 := step_word 112 [40, 88, 41, 32, 58, 45, 32, 113, 40, 88, 44, 32, 51, 41, 44, 32, 33, 114, 40, 88, 41, 44, 32, 88, 32, 33, 61, 32, 97, 46] 0 1 1 [112] _ _ (by decide) (by decide) (by decide) (by decide) rfl (by decide) rfl s1
  exact s0

theorem beg2 : scanL [113, 40, 97, 44, 32, 45, 51, 41, 46] 0 = some [(1, [113], 0), (4, [40], 1), (1, [97], 2), (4, [44], 3), (3, [45, 51], 5), (4, [41], 7), (4, [46], 8)] := by
  have s8 := step_word 46 [] 8 1 4 [46] _ _ (by decide) (by decide) (by decide) (by decide) rfl (by decide) rfl (scanL_nil 9)
  have s7 := step_word 41 [46] 7 1 4 [41] _ _ (by decide) (by decide) (by decide) (by decide) rfl (by decide) rfl s8
  have s5 := step_word 45 [51, 41, 46] 5 2 3 [45, 51] _ _ (by decide) (by decide) (by decide) (by decide) rfl (by decide) rfl s7
  have s4 := step_blank 32 [45, 51, 41, 46] 4 _ (by decide) s5
  have s3 := step_word 44 [32, 45, 51, 41, 46] 3 1 4 [44] _ _ (by decide) (by decide) (by decide) (by decide) rfl (by decide) rfl s4
  have s2 := step_word 97 [44, 32, 45, 51, 41, 46] 2 1 1 [97] _ _ (by decide) (by decide) (by decide) (by decide) rfl (by decide) rfl s3
  have s1 := step_word 40 [97, 44, 32, 45, 51, 41, 46] 1 1 4 [40] _ _ (by decide) (by decide) (by decide) (by decide) rfl (by decide) rfl s2
  have s0 := step_word 113 [40, 97, 44, 32, 45, 51, 41, 46] 0 1 1 [113] _ _ (by decide) (by decide) (by decide) (by decide) rfl (by decide) rfl s1
  exact s0

theorem beg3 : scanL [113, 40, 88, 41] 0 = some [(1, [113], 0), (4, [40], 1), (2, [88], 2), (4, [41], 3)] := by
  have s3 := step_word 41 [] 3 1 4 [41] _ _ (by decide) (by decide) (by decide) (by decide) rfl (by decide) rfl (scanL_nil 4)
  have s2 := step_word 88 [41] 2 1 2 [88] _ _ (by decide) (by decide) (by decide) (by decide) rfl (by decide) rfl s3
  have s1 := step_word 40 [88, 41] 1 1 4 [40] _ _ (by decide) (by decide) (by decide) (by decide) rfl (by decide) rfl s2
  have s0 := step_word 113 [40, 88, 41] 0 1 1 [113] _ _ (by decide) (by decide) (by decide) (by decide) rfl (by decide) rfl s1
  exact s0


def ruleB : Rul := ((1, tx [112], [(1, tx [88], 0)]), [(1, tx [113], [(1, tx [88], 0), (3, ⟨#[]⟩, 3)]), (2, tx [114], [(1, tx [88], 0)]), (4, ⟨#[]⟩, [(1, tx [88], 0), (2, tx [97], 0)])])
def factB : Lit := (1, tx [113], [(2, tx [97], 0), (3, ⟨#[]⟩, -3)])
theorem parse1 : progL 30 [(1, [112], 0), (4, [40], 1), (2, [88], 2), (4, [41], 3), (4, [58, 45], 5), (1, [113], 8), (4, [40], 9), (2, [88], 10), (4, [44], 11), (3, [51], 13), (4, [41], 14), (4, [44], 15), (4, [33], 17), (1, [114], 18), (4, [40], 19), (2, [88], 20), (4, [41], 21), (4, [44], 22), (2, [88], 24), (4, [33, 61], 26), (1, [97], 29), (4, [46], 30)] = .ok [ruleB] := by kernel_rfl
theorem parse2 : onlyL constW [(1, [113], 0), (4, [40], 1), (1, [97], 2), (4, [44], 3), (3, [45, 51], 5), (4, [41], 7), (4, [46], 8)] = .ok factB := by kernel_rfl
theorem parse3 : onlyL constW [(1, [113], 0), (4, [40], 1), (2, [88], 2), (4, [41], 3)] = .error false := by kernel_rfl
theorem itoa3 : Lib.itoa 3 = [51] := by
  rw [show (3 : Int) = ((3 : Nat) : Int) by rfl, Lib.itoa_nonneg, Lib.decDigits_one (by omega)]
  rfl
theorem text1 : ruleS ruleB = ⟨#[112, 40, 88, 41, 32, 58, 45, 32, 113, 40, 88, 44, 32, 51, 41, 44, 32, 33, 114, 40, 88, 41, 44, 32, 88, 32, 33, 61, 32, 97, 46]⟩ := by
  apply Vl.bytes_ext
  show ruleL ruleB = [112, 40, 88, 41, 32, 58, 45, 32, 113, 40, 88, 44, 32, 51, 41, 44, 32, 33, 114, 40, 88, 41, 44, 32, 88, 32, 33, 61, 32, 97, 46]
  simp [ruleL, ruleB, litT, litS, Vl.factS, Vl.factL, Vl.prtL, Vl.prt, itoa3, signS, Lib.join_cons, Lib.joinTail, tx]
theorem okT_var (x : List UInt8) (h : x.length ≤ 16) : OkT (1, tx x, 0) := ⟨fun h => absurd h (show ¬ (1 : Int) = 3 by decide), h⟩
theorem okB : OkR ruleB := by
  have v1 : OkT (1, tx [88], 0) := okT_var _ (by decide)
  have v2 : OkT (3, ⟨#[]⟩, 3) := ⟨fun _ => by decide, by decide⟩
  have v3 : OkT (2, tx [97], 0) := ⟨fun h => absurd h (by decide), by decide⟩
  refine ⟨⟨by decide, by decide, ?_, by decide, fun h => absurd h (by decide)⟩, ?_, by decide⟩
  · intro t ht
    obtain rfl : t = (1, tx [88], 0) := by simpa [ruleB] using ht
    exact v1
  · intro l hl
    simp only [ruleB, List.mem_cons, List.not_mem_nil, or_false] at hl
    rcases hl with rfl | rfl | rfl
    · refine ⟨by decide, by decide, ?_, by decide, fun h => absurd h (by decide)⟩
      intro t ht
      simp only [List.mem_cons, List.not_mem_nil, or_false] at ht
      rcases ht with rfl | rfl
      · exact v1
      · exact v2
    · refine ⟨by decide, by decide, ?_, by decide, fun h => absurd h (by decide)⟩
      intro t ht
      simp only [List.mem_cons, List.not_mem_nil, or_false] at ht
      rw [ht]
      exact v1
    · refine ⟨by decide, by decide, ?_, by decide, fun _ => rfl⟩
      intro t ht
      simp only [List.mem_cons, List.not_mem_nil, or_false] at ht
      rcases ht with rfl | rfl
      · exact v1
      · exact v3

/-- The tables that the walks ask for. -/
structure Tabs (w : World) : Prop where
  lex : Sg w
  syn : Tb w
  pow : Pow10 w
theorem Tabs.below {w w' : World} (h : Tabs w) (hb : Below w.heap.size w w') : Tabs w' := ⟨h.lex.below hb, h.syn.below hb, h.pow.below hb⟩

/-- A row of one rule. -/
theorem one_rule {w : World} {q : Rul} {y : Value} (h : isRs w [q] y) : ∃ g cap va vb, y = .slice (some ⟨g, 0, none⟩) 1 cap ∧ isTs w q.1.2.2 va ∧ isLs w q.2 vb ∧ w.cell? ⟨g, 0, none⟩ = some (.int .i64 q.1.1) ∧ w.cell? ⟨g, 1, none⟩ = some (.string q.1.2.1) ∧ w.cell? ⟨g, 2, none⟩ = some va ∧ w.cell? ⟨g, 3, none⟩ = some vb := by
  obtain ⟨zs, h1, h2, h3⟩ := h
  match zs, h1 with
  | [z], h1 =>
    obtain rfl : z.1 = q := by simpa using h1
    have hz := h3 z (by simp)
    rcases Lx.own_shape h2 with ⟨e, h0⟩ | ⟨g, cap', e, _⟩
    · simp at h0
    · subst e
      refine ⟨g, cap', z.2.1, z.2.2, rfl, hz.1, hz.2, ?_, ?_, ?_, ?_⟩
      · exact (h2.cellAt 0 (by simp)).trans rfl
      · exact (h2.cellAt 1 (by simp)).trans rfl
      · exact (h2.cellAt 2 (by simp)).trans rfl
      · exact (h2.cellAt 3 (by simp)).trans rfl

theorem cell_below {w w' : World} {p : Addr} {x : Value} (h : w.cell? p = some x) (hb : Below w.heap.size w w') : w'.cell? p = some x :=
  (World.cell?_of_block (hb.block p.block (World.block_lt_of_cell? w p h))).trans h

set_option maxRecDepth 10000 in
set_option maxHeartbeats 4000000 in
theorem begun_any (w : World) (h : Tabs w) : Calls Tryz.prog 7 #[] w fun e w' => e = .returned (.bool true) ∧ Below w.heap.size w w' := by
  have H := hide h
  have h1 : wordsL (bs ⟨#[112, 40, 88, 41, 32, 58, 45, 32, 113, 40, 88, 44, 32, 51, 41, 44, 32, 33, 114, 40, 88, 41, 44, 32, 88, 32, 33, 61, 32, 97, 46]⟩) = [(1, [112], 0), (4, [40], 1), (2, [88], 2), (4, [41], 3), (4, [58, 45], 5), (1, [113], 8), (4, [40], 9), (2, [88], 10), (4, [44], 11), (3, [51], 13), (4, [41], 14), (4, [44], 15), (4, [33], 17), (1, [114], 18), (4, [40], 19), (2, [88], 20), (4, [41], 21), (4, [44], 22), (2, [88], 24), (4, [33, 61], 26), (1, [97], 29), (4, [46], 30)] := by
    rw [wordsL, show scanAt (bs ⟨#[112, 40, 88, 41, 32, 58, 45, 32, 113, 40, 88, 44, 32, 51, 41, 44, 32, 33, 114, 40, 88, 41, 44, 32, 88, 32, 33, 61, 32, 97, 46]⟩) 0 = some [(1, [112], 0), (4, [40], 1), (2, [88], 2), (4, [41], 3), (4, [58, 45], 5), (1, [113], 8), (4, [40], 9), (2, [88], 10), (4, [44], 11), (3, [51], 13), (4, [41], 14), (4, [44], 15), (4, [33], 17), (1, [114], 18), (4, [40], 19), (2, [88], 20), (4, [41], 21), (4, [44], 22), (2, [88], 24), (4, [33, 61], 26), (1, [97], 29), (4, [46], 30)] from beg1]
  have h2 : wordsL (bs ⟨#[113, 40, 97, 44, 32, 45, 51, 41, 46]⟩) = [(1, [113], 0), (4, [40], 1), (1, [97], 2), (4, [44], 3), (3, [45, 51], 5), (4, [41], 7), (4, [46], 8)] := by
    rw [wordsL, show scanAt (bs ⟨#[113, 40, 97, 44, 32, 45, 51, 41, 46]⟩) 0 = some [(1, [113], 0), (4, [40], 1), (1, [97], 2), (4, [44], 3), (3, [45, 51], 5), (4, [41], 7), (4, [46], 8)] from beg2]
  have h3 : wordsL (bs ⟨#[113, 40, 88, 41]⟩) = [(1, [113], 0), (4, [40], 1), (2, [88], 2), (4, [41], 3)] := by
    rw [wordsL, show scanAt (bs ⟨#[113, 40, 88, 41]⟩) 0 = some [(1, [113], 0), (4, [40], 1), (2, [88], 2), (4, [41], 3)] from beg3]
  have HP := hide (program_of ⟨#[112, 40, 88, 41, 32, 58, 45, 32, 113, 40, 88, 44, 32, 51, 41, 44, 32, 33, 114, 40, 88, 41, 44, 32, 88, 32, 33, 61, 32, 97, 46]⟩ w (by decide) h.syn (words_good _ w h.lex (by decide) beg1))
  rw [h1, parse1] at HP
  have HF1 : Hid (∀ W, Below w.heap.size w W → Calls Tryz.prog 14 #[.string ⟨#[113, 40, 97, 44, 32, 45, 51, 41, 46]⟩] W fun e w' => Fa (.ok factB) W e w') := fun W hb => by
    have := fact_of ⟨#[113, 40, 97, 44, 32, 45, 51, 41, 46]⟩ W (by decide) (fun o => words_good _ _ ((H.out.below hb).below (Lx.below_box W o)).lex (by decide) beg2)
    rw [h2, parse2] at this
    exact this
  have HF2 : Hid (∀ W, Below w.heap.size w W → Calls Tryz.prog 14 #[.string ⟨#[113, 40, 88, 41]⟩] W fun e w' => Fa (.error false) W e w') := fun W hb => by
    have := fact_of ⟨#[113, 40, 88, 41]⟩ W (by decide) (fun o => words_good _ _ ((H.out.below hb).below (Lx.below_box W o)).lex (by decide) beg3)
    rw [h3, parse3] at this
    exact this
  clear h h1 h2 h3
  go_enter Tryz.func7, Tryz.ntmps7
  go_wp2_with fail
  refine Calls.mono HP.out ?_
  rintro e w1 ⟨⟨y, rfl, hy⟩, hb1⟩
  obtain ⟨g, cap, va, vb, rfl, hva, hvb, k0, k1, k2, k3⟩ := one_rule hy
  have HV := hide (And.intro hva hvb)
  have HK := hide (And.intro k0 (And.intro k1 (And.intro k2 k3)))
  have HB1 := hide hb1
  obtain ⟨_, aoa, capa, rfl⟩ := own_len hva
  obtain ⟨aob, capb, rfl⟩ := isLs_shape hvb
  clear HP hy hb1 hva hvb k0 k1 k2 k3
  go_wp2_with fail
  refine Calls.mono (HF1.out w1 HB1.out) ?_
  rintro e w2 ⟨⟨vf, rfl, hvf⟩, hb2⟩
  obtain ⟨_, aof, capf, rfl⟩ := own_len hvf
  have HB2 := hide (HB1.out.trans (hb2.mono HB1.out.size))
  have HB12 := hide hb2
  have hts := ts_of hvf
  obtain ⟨ao', cap', e1, _, hcf⟩ := hts
  obtain ⟨gf, off, rfl, hcf2⟩ := hcf (by decide)
  have kf := hide (hcf2 1 (by decide)).2.2
  simp only [Value.slice.injEq] at e1
  obtain ⟨rfl, _, rfl⟩ := e1
  have HF2' : Hid (∀ o, Calls Tryz.prog 14 #[.string ⟨#[113, 40, 88, 41]⟩] (w2.alloc o) fun e w' => Fa (.error false) (w2.alloc o) e w') := fun o => HF2.out _ (HB2.out.alloc HB2.out.size o)
  clear HF1 HF2 hvf hb2 hcf hcf2
  go_wp2_with fail
  refine Calls.mono (HF2'.out _) ?_
  rintro e w3 ⟨rfl, hb3⟩
  have B13 : Hid (∀ o, Below w1.heap.size w1 (w3.alloc o)) := fun o => ((HB12.out.alloc HB12.out.size _).trans (hb3.mono (by have := HB12.out.size; simp; omega))).alloc (by have := HB12.out.size; have := hb3.size; simp at this; omega) o
  have hf3 := fun o => ((Bx.new w2 #[.string factB.2.1, .slice (some ⟨gf, off, none⟩) factB.2.2.length capf] 38).below hb3).below (Lx.below_box w3 o)
  have kf3 := fun o => cell_below (cell_below (cell_below kf.out (Lx.below_box w2 _)) hb3) (Lx.below_box w3 o)
  have d0 := fun o => (hf3 o).two.1.1
  have d1 := fun o => (hf3 o).two.1.2
  have k0 := fun o => cell_below HK.out.1 (B13.out o)
  have k1 := fun o => cell_below HK.out.2.1 (B13.out o)
  have k2 := fun o => cell_below HK.out.2.2.1 (B13.out o)
  have k3 := fun o => cell_below HK.out.2.2.2 (B13.out o)
  have HPr : Hid (∀ o, Calls Tryz.prog 12 #[.agg #[.int .i64 ruleB.1.1, .string ruleB.1.2.1, .slice aoa ruleB.1.2.2.length capa, .slice aob ruleB.2.length capb]] (w3.alloc o) fun e w' => e = .returned (.string ⟨#[112, 40, 88, 41, 32, 58, 45, 32, 113, 40, 88, 44, 32, 51, 41, 44, 32, 33, 114, 40, 88, 41, 44, 32, 88, 32, 33, 61, 32, 97, 46]⟩) ∧ Below (w3.alloc o).heap.size (w3.alloc o) w') := fun o => by
    have hB := HB1.out.trans ((B13.out o).mono HB1.out.size)
    have := print_rule (w := w3.alloc o) (q := ruleB) ⟨_, _, rfl, isTs_below HV.out.1 (B13.out o), isLs_below HV.out.2 (B13.out o)⟩ okB (H.out.below hB).syn (H.out.below hB).pow
    rw [text1] at this
    exact this
  clear HV HK kf HF2' hb3 HB12
  go_wp2_with fail
  refine Calls.mono (HPr.out _) ?_
  rintro e w4 ⟨rfl, hb4⟩
  have x1 : w4.cell? ⟨w2.heap.size, 1, none⟩ = some (.slice (some ⟨gf, off, none⟩) 2 capf) := cell_below (d1 _) hb4
  have x2 : w4.cell? ⟨gf, off + 3 + 2, none⟩ = some (.int .i64 (-3)) := cell_below (kf3 _) hb4
  have HB4 := hide (((HB1.out.trans ((B13.out _).mono HB1.out.size))).trans (hb4.mono (Nat.le_trans HB1.out.size (B13.out _).size)))
  clear d0 d1 k0 k1 k2 k3 kf3 hf3 HPr hb4 B13 HB1 HB2
  go_wp2_with fail
  go_ret
  exact ⟨rfl, HB4.out⟩

end Go.Proofs.YtcfhpodpkficaaaGreatDoor.Sy
namespace Go.Proofs.YtcfhpodpkficaaaGreatDoor
open Go.ChangeShapes Go.WideShapes Go.ChangeAt Go.RowKit

theorem own : ownKnob Tryz.prog.godebug = none := by kernel_rfl
theorem laidOut : laidOutB Tryz.prog = true := by kernel_rfl
def laid7 : List (String × DataW Unit) := [("math/bits.deBruijn32tab", Rows.laid_math_bits_deBruijn32tab), ("math/bits.deBruijn64tab", Rows.laid_math_bits_deBruijn64tab), ("internal/strconv.uint64pow10", Rows.laid_internal_strconv_uint64pow10), ("strconv.ErrRange", Rows.laid_strconv_ErrRange), ("strconv.ErrSyntax", Rows.laid_strconv_ErrSyntax), ("delphi/lex.signs", Rows.laid_delphi_lex_signs), ("delphi/syntax.signs", Rows.laid_delphi_syntax_signs)]

theorem door_met (os : Os) (args : Array Value) : laidMetH Tryz.prog laid7 ((World.doorLaid Tryz.prog 400 os).forCall (fun _ _ => 0) ⟨#[], args, []⟩).memory :=
  laidMetH_of_parts3 (fuel := 8) (laidMet_of_run' 8 (by kernel_rfl) (by kernel_rfl)) (by kernel_rfl) (by kernel_rfl)

theorem gSg : Tryz.prog.globalNamed "delphi/lex.signs" = some 2 := by kernel_rfl
theorem tSg : (Tryz.prog.globals[2]?).map (·.type) = some 136 := by kernel_rfl
theorem gTb : Tryz.prog.globalNamed "delphi/syntax.signs" = some 0 := by kernel_rfl
theorem tTb : (Tryz.prog.globals[0]?).map (·.type) = some 110 := by kernel_rfl
theorem gPw : Tryz.prog.globalNamed "internal/strconv.uint64pow10" = some 5 := by kernel_rfl
theorem tPw : (Tryz.prog.globals[5]?).map (·.type) = some 148 := by kernel_rfl

def prs : List (List UInt8 × Int) := [([61], 3), ([33, 61], 4), ([60], 5), ([60, 61], 6)]

theorem of_laid {W : World} (h : laidMetH Tryz.prog laid7 W) : Sy.Tabs W := by
  rw [MakeChecks.laidMetH_plain _ _ _ (by kernel_rfl)] at h
  obtain ⟨ps, ⟨g0, t0, cs0, f0, p0, q0, _, _, _, _, ⟨g1, t1, cs1, f1, p1, q1, _, _, _, _, ⟨g2, t2, cs2, f2, p2, q2, hg2, ht2, hv2, hd2, ⟨g3, t3, cs3, f3, p3, q3, _, _, _, _, ⟨g4, t4, cs4, f4, p4, q4, _, _, _, _, ⟨g5, t5, cs5, f5, p5, q5, hg5, ht5, hv5, hd5, ⟨g6, t6, cs6, f6, p6, q6, hg6, ht6, hv6, hd6, _, _⟩, _⟩, _⟩, _⟩, _⟩, _⟩, _⟩, _⟩ := h
  refine ⟨?_, ?_, ?_⟩
  · obtain rfl := Option.some.inj (gSg.symm.trans hg5)
    obtain rfl := Option.some.inj (tSg.symm.trans ht5)
    obtain ⟨xs, m1, rfl, hx1, hlen, hn3, hel⟩ := DataW.trod_array Tryz.underlying136 hd5
    intro i hi
    have c9 : Tryz.prog.cellsOf 9 = 1 := by kernel_rfl
    have h0 := hel i hi
    rw [List.getElem?_eq_getElem (by omega), c9, Nat.mul_one] at h0
    obtain ⟨k, e1, e2, _⟩ := DataW.trod_string Tryz.underlying9 h0
    simp only [Prod.mk.injEq] at hx1
    have hx := hx1.1
    have hL : Rows.laid_delphi_lex_signs = (DataW.agg (Lx.signsL.map fun x => DataW.lit (.string x)) : DataW Unit) := rfl
    rw [hL, DataW.agg.injEq] at hx
    have hxi := congrArg (fun l => l[i]?) hx
    have ht : Lx.signsL[i]? = some (Lx.signsL.getD i []) := by
      rw [List.getD, List.getElem?_eq_getElem (show i < Lx.signsL.length from hi)]
      rfl
    simp only [List.getElem?_map, ht, List.getElem?_eq_getElem (show i < xs.length by omega), Option.map_some, Option.some.injEq] at hxi
    have hk : k = Lx.sg i := by
      rw [e2] at hxi
      simp only [DataW.lit.injEq, Lit.string.injEq] at hxi
      unfold Lx.sg
      rw [hxi]
    subst hk
    have hc := World.var?_cell hg5 hv5 i
    rw [hc, ← Array.getElem?_toList]
    have h1 := congrArg (fun l => l[0]?) e1
    simpa using h1
  · obtain rfl := Option.some.inj (gTb.symm.trans hg6)
    obtain rfl := Option.some.inj (tTb.symm.trans ht6)
    obtain ⟨xs, m1, rfl, hx1, hlen, hn3, hel⟩ := DataW.trod_array Tryz.underlying110 hd6
    have c109 : Tryz.prog.cellsOf 109 = 2 := by kernel_rfl
    have c9 : Tryz.prog.cellsOf 9 = 1 := by kernel_rfl
    have c3 : Tryz.prog.cellsOf 3 = 1 := by kernel_rfl
    simp only [Prod.mk.injEq] at hx1
    have hx := hx1.1
    have hL : Rows.laid_delphi_syntax_signs = (DataW.agg (prs.map fun x => DataW.agg [DataW.lit (.string x.1), DataW.lit (.int .i64 x.2)]) : DataW Unit) := rfl
    rw [hL, DataW.agg.injEq] at hx
    have key : ∀ e (he : e < 4), cs6.toList[e * 2]? = some (.string ⟨(prs[e]'he).1.toArray⟩) ∧ cs6.toList[e * 2 + 1]? = some (.int .i64 (prs[e]'he).2) := fun e he => by
      have h0 := hel e he
      rw [List.getElem?_eq_getElem (by omega), c109] at h0
      obtain ⟨y0, y1, n, e1, _, d0, d1⟩ := trod_struct2 Tryz.underlying109 h0
      have d0' : DataW.trod _ _ _ _ _ _ n 9 ((((cs6.toList.drop (e * 2)).take 2).drop 0).take (Tryz.prog.cellsOf 9)) = some y0 := d0
      have d1' : DataW.trod _ _ _ _ _ _ n 3 ((((cs6.toList.drop (e * 2)).take 2).drop 1).take (Tryz.prog.cellsOf 3)) = some y1 := d1
      obtain ⟨s, a1, a2, _⟩ := DataW.trod_string Tryz.underlying9 d0'
      obtain ⟨k, b1, b2, _⟩ := DataW.trod_int Tryz.underlying3 d1'
      have hxi := congrArg (fun l => l[e]?) hx
      simp only [List.getElem?_map, List.getElem?_eq_getElem (show e < prs.length from he), List.getElem?_eq_getElem (show e < xs.length by omega), Option.map_some, Option.some.injEq] at hxi
      rw [e1, a2, b2] at hxi
      simp only [DataW.agg.injEq, List.cons.injEq, DataW.lit.injEq, Lit.string.injEq, Lit.int.injEq] at hxi
      have hs : s = ⟨(prs[e]'he).1.toArray⟩ := Vl.bytes_ext hxi.1.symm
      have hk : k = (prs[e]'he).2 := hxi.2.1.2.symm
      rw [c9] at a1
      rw [c3] at b1
      have q0 := congrArg (fun l => l[0]?) a1
      have q1 := congrArg (fun l => l[0]?) b1
      simp only [List.getElem?_take, List.getElem?_drop] at q0 q1
      simp at q0 q1
      rw [← hs, ← hk]
      exact ⟨by rw [Array.getElem?_toList]; exact q0, by rw [Array.getElem?_toList]; exact q1⟩
    intro i hi
    rw [World.var?_cell hg6 hv6 i, ← Array.getElem?_toList]
    have k0 := key 0 (by decide)
    have k1 := key 1 (by decide)
    have k2 := key 2 (by decide)
    have k3 := key 3 (by decide)
    match i, hi with
    | 0, _ => exact k0.1
    | 1, _ => exact k0.2
    | 2, _ => exact k1.1
    | 3, _ => exact k1.2
    | 4, _ => exact k2.1
    | 5, _ => exact k2.2
    | 6, _ => exact k3.1
    | 7, _ => exact k3.2
  · obtain rfl := Option.some.inj (gPw.symm.trans hg2)
    obtain rfl := Option.some.inj (tPw.symm.trans ht2)
    have eL : (Rows.laid_internal_strconv_uint64pow10 : DataW Unit) = Lib.tabData .u64 Lib.pow10Tab := by rfl
    unfold Vl.Pow10 Lib.TabIs
    rw [hv2]
    have hd3 := hd2
    rw [eL] at hd3
    rw [← Lib.cells_of_tab Tryz.underlying148 Tryz.underlying126 (by kernel_rfl) (by kernel_rfl) hd3]
end Go.Proofs.YtcfhpodpkficaaaGreatDoor
namespace Go.Proofs.YtcfhpodpkficaaaGreatDoor.Ft
open Lx

theorem runP_cut (p : Nat → Bool) (L : List UInt8) (n : Nat) (h : n ≤ runP p L) : runP p (L.take n) = n := by
  induction L generalizing n with
  | nil => simp [runP] at h; simp [runP, h]
  | cons c t ih =>
    cases n with
    | zero => rfl
    | succ n =>
      by_cases hc : p c.toNat = true
      · have e : runP p (c :: t) = runP p t + 1 := by simp [runP, hc]
        rw [List.take_succ_cons, runP, if_pos hc, ih n (by omega)]
      · have e : runP p (c :: t) = 0 := by simp [runP, hc]
        omega
theorem runP_beyond (p : Nat → Bool) (L : List UInt8) (n : Nat) (h : runP p L ≤ n) : runP p (L.take n) = runP p L := by
  induction L generalizing n with
  | nil => simp
  | cons c t ih =>
    by_cases hc : p c.toNat = true
    · have e : runP p (c :: t) = runP p t + 1 := by simp [runP, hc]
      cases n with
      | zero => omega
      | succ n => rw [List.take_succ_cons, runP, if_pos hc, ih n (by omega), e]
    · have e : runP p (c :: t) = 0 := by simp [runP, hc]
      rw [e]
      cases n with
      | zero => rfl
      | succ n => simp [runP, hc]

theorem num_beyond (L : List UInt8) (n : Nat) (h : numL L ≤ n) (h2 : 2 ≤ n ∨ numL L ≠ 0 ∨ True) (hn : 0 < n) : numL L ≠ 0 → numL (L.take n) = numL L := by
  intro h0
  match L with
  | [] => simp [numL] at h0
  | c :: t =>
    obtain ⟨n, rfl⟩ : ∃ k, n = k + 1 := ⟨n - 1, by omega⟩
    rw [List.take_succ_cons]
    by_cases h1 : c.toNat = 48
    · simp [numL, h1]
    · by_cases h2' : c.toNat = 45
      · match t with
        | [] => simp [numL, h2'] at h0
        | d :: r =>
          by_cases h3 : d.toNat = 48
          · simp [numL, h2', h3] at h0
          · by_cases h4 : digitN d.toNat = true
            · have e : numL (c :: d :: r) = runP digitN r + 2 := by simp [numL, h2', h3, h4]
              obtain ⟨n, rfl⟩ : ∃ k, n = k + 1 := ⟨n - 1, by omega⟩
              rw [List.take_succ_cons, e]
              simp only [numL, if_neg h1, if_pos h2', if_neg h3, if_pos h4]
              rw [runP_beyond _ _ _ (by omega)]
            · simp [numL, h2', h3, h4] at h0
      · have e : ∀ t, numL (c :: t) = runP digitN (c :: t) := fun t => by simp only [numL, if_neg h1, if_neg h2']
        rw [e, e]
        have := runP_beyond digitN (c :: t) (n + 1) (by rw [← e]; exact h)
        rwa [List.take_succ_cons] at this

/-- A word that is cut behind its first byte, or later, is a word, but for ':' and '-'. -/
theorem num_cut (c : UInt8) (t : List UInt8) (n : Nat) (h : n ≤ numL (c :: t)) (h2 : 2 ≤ n ∨ (n = 1 ∧ c.toNat ≠ 45)) : numL ((c :: t).take n) = n := by
  obtain ⟨k, rfl⟩ : ∃ k, n = k + 1 := ⟨n - 1, by omega⟩
  rw [List.take_succ_cons]
  by_cases h1 : c.toNat = 48
  · have e : numL (c :: t) = 1 := by simp [numL, h1]
    have : k = 0 := by omega
    subst this
    simp [numL, h1]
  · by_cases h2' : c.toNat = 45
    · match t with
      | [] => simp [numL, h2'] at h
      | d :: r =>
        by_cases h3 : d.toNat = 48
        · simp [numL, h2', h3] at h
        · by_cases h4 : digitN d.toNat = true
          · have e : numL (c :: d :: r) = runP digitN r + 2 := by simp [numL, h2', h3, h4]
            obtain ⟨q, rfl⟩ : ∃ q, k = q + 1 := ⟨k - 1, by omega⟩
            rw [List.take_succ_cons]
            simp only [numL, if_neg h1, if_pos h2', if_neg h3, if_pos h4]
            rw [runP_cut _ _ _ (by omega)]
          · simp [numL, h2', h3, h4] at h
    · have e : ∀ t, numL (c :: t) = runP digitN (c :: t) := fun t => by simp only [numL, if_neg h1, if_neg h2']
      rw [e]
      have := runP_cut digitN (c :: t) (k + 1) (by rw [← e]; exact h)
      rwa [List.take_succ_cons] at this

theorem kind_take (c : UInt8) (t : List UInt8) (n : Nat) : kindL ((c :: t).take (n + 1)) = kindL (c :: t) := by simp [kindL]

theorem sign_one (c : UInt8) (t : List UInt8) (h : signL (c :: t) ≠ 0) : (c.toNat = 58 ∧ signL [c] = 0) ∨ (signL [c] = 1) := by
  have key : ∀ c : UInt8, signL [c] = 1 ∨ (c.toNat = 58 ∧ signL [c] = 0) ∨ (signL [c] = 0 ∧ c.toNat ≠ 58) := fun c => by
    by_cases h1 : signL [c] = 1
    · exact Or.inl h1
    · have h2 : signL [c] = 0 := by
        have := signIn_le signsL [c]
        have : signL [c] ≤ 1 := this
        omega
      by_cases h58 : c.toNat = 58
      · exact Or.inr (Or.inl ⟨h58, h2⟩)
      · exact Or.inr (Or.inr ⟨h2, h58⟩)
  rcases key c with k | k | ⟨k, k2⟩
  · exact Or.inr k
  · exact Or.inl k
  · exfalso
    apply h
    match t with
    | [] => exact k
    | d :: r =>
      simp only [signL, signsL, signIn, isPre1, isPre2', List.length] at k
      simp only [signL, signsL, signIn, isPre1, isPre2, List.length]
      have hne : ¬ (58 : UInt8) = c := fun e => k2 (by rw [← e]; rfl)
      by_cases e1 : 40 = c
      · subst e1; simp at k
      by_cases e2 : 41 = c
      · subst e2; simp at k
      by_cases e3 : 44 = c
      · subst e3; simp at k
      by_cases e4 : 46 = c
      · subst e4; simp at k
      by_cases e6 : 61 = c
      · subst e6; simp at k
      by_cases e5 : 33 = c
      · subst e5; simp at k
      by_cases e7 : 60 = c
      · subst e7; simp at k
      simp [e1, e2, e3, e4, e5, e6, e7, hne]
theorem sign_take (c : UInt8) (t : List UInt8) (n : Nat) (h : 2 ≤ n) : signL ((c :: t).take n) = signL (c :: t) := by
  obtain ⟨k, rfl⟩ : ∃ k, n = k + 2 := ⟨n - 2, by omega⟩
  match t with
  | [] => rfl
  | d :: r =>
    rw [List.take_succ_cons, List.take_succ_cons]
    simp only [signL, signsL, signIn, isPre1, isPre2]

/-- The first word of a text that is cut within it. -/
theorem size_cut (c : UInt8) (t : List UInt8) (n : Nat) (h1 : 1 ≤ n) (h : n ≤ sizeL (c :: t)) :
    sizeL ((c :: t).take n) = n ∨ (n = 1 ∧ 2 ≤ sizeL (c :: t) ∧ sizeL ((c :: t).take 1) = 0) := by
  obtain ⟨k, rfl⟩ : ∃ k, n = k + 1 := ⟨n - 1, by omega⟩
  have hk := kind_take c t k
  by_cases k1 : kindL (c :: t) = 1
  · have e : sizeL (c :: t) = runP nameN (c :: t) := by simp [sizeL, k1]
    left
    rw [sizeL, hk, if_pos k1]
    exact runP_cut _ _ _ (by omega)
  · by_cases k2 : kindL (c :: t) = 2
    · have e : sizeL (c :: t) = runP varN (c :: t) := by simp [sizeL, k2]
      left
      rw [sizeL, hk, if_neg k1, if_pos k2]
      exact runP_cut _ _ _ (by omega)
    · by_cases k3 : kindL (c :: t) = 3
      · have e : sizeL (c :: t) = numL (c :: t) := by simp [sizeL, k3]
        by_cases hc : k = 0 ∧ c.toNat = 45
        · right
          obtain ⟨rfl, hc⟩ := hc
          refine ⟨rfl, ?_, ?_⟩
          · rw [e]
            match t with
            | [] => simp [e, numL, hc] at h
            | d :: r =>
              by_cases h3 : d.toNat = 48
              · simp [e, numL, hc, h3] at h
              · by_cases h4 : digitN d.toNat = true
                · simp [numL, hc, h3, h4]
                · simp [e, numL, hc, h3, h4] at h
          · rw [sizeL, kind_take, if_neg k1, if_neg k2, if_pos k3]
            simp [numL, hc]
        · left
          rw [sizeL, hk, if_neg k1, if_neg k2, if_pos k3]
          exact num_cut c t (k + 1) (by omega) (by omega)
      · have e : sizeL (c :: t) = signL (c :: t) := by simp [sizeL, k1, k2, k3]
        have h2 := signL_two (c :: t)
        by_cases hk1 : 1 ≤ k
        · left
          have : k = 1 := by omega
          subst this
          rw [sizeL, hk, if_neg k1, if_neg k2, if_neg k3, sign_take c t 2 (by omega)]
          omega
        · have : k = 0 := by omega
          subst this
          have hs1 : (c :: t).take (0 + 1) = [c] := rfl
          rcases sign_one c t (by omega) with ⟨_, k0⟩ | k0
          · by_cases hs : sizeL (c :: t) = 1
            · exfalso
              rename_i hc58
              have hc : c = 58 := UInt8.toNat_inj.1 (show c.toNat = (58 : UInt8).toNat from hc58)
              subst hc
              rw [e] at hs
              match t with
              | [] => simp [signL, signsL, signIn, isPre1, isPre2'] at hs
              | d :: r =>
                simp only [signL, signsL, signIn, isPre1, isPre2, List.length] at hs
                by_cases hd : (45 : UInt8) = d
                · subst hd; simp at hs
                · simp [hd] at hs
            · right
              refine ⟨rfl, by omega, ?_⟩
              rw [sizeL, kind_take, if_neg k1, if_neg k2, if_neg k3, List.take_succ_cons, List.take_zero]
              exact k0
          · left
            rw [sizeL, hk, if_neg k1, if_neg k2, if_neg k3, hs1]
            exact k0
/-- The first word of a text that is cut behind it. -/
theorem size_beyond (c : UInt8) (t : List UInt8) (n : Nat) (h1 : 1 ≤ n) (h : sizeL (c :: t) ≤ n) (h0 : sizeL (c :: t) ≠ 0) : sizeL ((c :: t).take n) = sizeL (c :: t) := by
  obtain ⟨k, rfl⟩ : ∃ k, n = k + 1 := ⟨n - 1, by omega⟩
  have hk := kind_take c t k
  by_cases k1 : kindL (c :: t) = 1
  · have e : sizeL (c :: t) = runP nameN (c :: t) := by simp [sizeL, k1]
    rw [e, sizeL, hk, if_pos k1]
    exact runP_beyond _ _ _ (by omega)
  · by_cases k2 : kindL (c :: t) = 2
    · have e : sizeL (c :: t) = runP varN (c :: t) := by simp [sizeL, k2]
      rw [e, sizeL, hk, if_neg k1, if_pos k2]
      exact runP_beyond _ _ _ (by omega)
    · by_cases k3 : kindL (c :: t) = 3
      · have e : sizeL (c :: t) = numL (c :: t) := by simp [sizeL, k3]
        rw [e, sizeL, hk, if_neg k1, if_neg k2, if_pos k3]
        exact num_beyond _ _ (by omega) (Or.inr (Or.inr trivial)) (by omega) (by omega)
      · have e : sizeL (c :: t) = signL (c :: t) := by simp [sizeL, k1, k2, k3]
        rw [e, sizeL, hk, if_neg k1, if_neg k2, if_neg k3]
        by_cases hk1 : 1 ≤ k
        · exact sign_take c t (k + 1) (by omega)
        · have : k = 0 := by omega
          subst this
          rcases sign_one c t (by omega) with ⟨hc58, k0⟩ | k0
          · exfalso
            have hc : c = 58 := UInt8.toNat_inj.1 (show c.toNat = (58 : UInt8).toNat from hc58)
            subst hc
            have hs : signL (58 :: t) = 1 := by omega
            match t with
            | [] => simp [signL, signsL, signIn, isPre1, isPre2'] at hs
            | d :: r =>
              simp only [signL, signsL, signIn, isPre1, isPre2, List.length] at hs
              by_cases hd : (45 : UInt8) = d
              · subst hd; simp at hs
              · simp [hd] at hs
          · have hs1 : (c :: t).take (0 + 1) = [c] := rfl
            rw [hs1, k0]
            omega
/-- What begins no word begins none when it is cut. -/
theorem size_zero (c : UInt8) (t : List UInt8) (n : Nat) (h1 : 1 ≤ n) (h0 : sizeL (c :: t) = 0) : sizeL ((c :: t).take n) = 0 := by
  obtain ⟨k, rfl⟩ : ∃ k, n = k + 1 := ⟨n - 1, by omega⟩
  have hk := kind_take c t k
  by_cases k1 : kindL (c :: t) = 1
  · have e : sizeL (c :: t) = runP nameN (c :: t) := by simp [sizeL, k1]
    rw [sizeL, hk, if_pos k1, runP_beyond _ _ _ (by omega)]
    omega
  · by_cases k2 : kindL (c :: t) = 2
    · have e : sizeL (c :: t) = runP varN (c :: t) := by simp [sizeL, k2]
      rw [sizeL, hk, if_neg k1, if_pos k2, runP_beyond _ _ _ (by omega)]
      omega
    · by_cases k3 : kindL (c :: t) = 3
      · have e : sizeL (c :: t) = numL (c :: t) := by simp [sizeL, k3]
        rw [e] at h0
        rw [sizeL, hk, if_neg k1, if_neg k2, if_pos k3, List.take_succ_cons]
        by_cases c1 : c.toNat = 48
        · simp [numL, c1] at h0
        · by_cases c2 : c.toNat = 45
          · match t with
            | [] => simp [numL, c2]
            | d :: r =>
              cases k with
              | zero => simp [numL, c2]
              | succ k =>
                rw [List.take_succ_cons]
                by_cases h3 : d.toNat = 48
                · simp [numL, c2, h3]
                · by_cases h4 : digitN d.toNat = true
                  · simp [numL, c2, h3, h4] at h0
                  · simp [numL, c2, h3, h4]
          · have e : ∀ t, numL (c :: t) = runP digitN (c :: t) := fun t => by simp only [numL, if_neg c1, if_neg c2]
            rw [e] at h0
            rw [e]
            have := runP_beyond digitN (c :: t) (k + 1) (by omega)
            rw [List.take_succ_cons] at this
            omega
      · have e : sizeL (c :: t) = signL (c :: t) := by simp [sizeL, k1, k2, k3]
        rw [e] at h0
        rw [sizeL, hk, if_neg k1, if_neg k2, if_neg k3]
        by_cases hk1 : 1 ≤ k
        · rw [sign_take c t (k + 1) (by omega)]; exact h0
        · have : k = 0 := by omega
          subst this
          have hs1 : (c :: t).take (0 + 1) = [c] := rfl
          rw [hs1]
          by_cases hz : signL [c] = 0
          · exact hz
          · exfalso
            apply hz
            match t with
            | [] => exact h0
            | d :: r =>
              simp only [signL, signsL, signIn, isPre1, isPre2, List.length] at h0
              simp only [signL, signsL, signIn, isPre1, isPre2', List.length]
              by_cases e1 : 40 = c
              · subst e1; simp at h0
              by_cases e2 : 41 = c
              · subst e2; simp at h0
              by_cases e3 : 44 = c
              · subst e3; simp at h0
              by_cases e4 : 46 = c
              · subst e4; simp at h0
              by_cases e6 : 61 = c
              · subst e6; simp at h0
              by_cases e5 : 33 = c
              · subst e5
                by_cases f : 61 = d
                · subst f; simp at h0
                · have f' : (61 == d) = false := by simpa using f
                  simp [f'] at h0
              by_cases e7 : 60 = c
              · subst e7
                by_cases f : 61 = d
                · subst f; simp at h0
                · have f' : (61 == d) = false := by simpa using f
                  simp [f'] at h0
              simp [e1, e2, e3, e4, e5, e6, e7]

end Go.Proofs.YtcfhpodpkficaaaGreatDoor.Ft
namespace Go.Proofs.YtcfhpodpkficaaaGreatDoor.Ft
open Lx

/-- How long it is. -/
def gl (L : List UInt8) : Nat :=
  match L with
  | [] => 0
  | c :: t =>
    if blankN c.toNat = true then gl t + 1
    else if c.toNat = 37 then gl (t.drop (lineL t)) + (1 + lineL t)
    else if sizeL (c :: t) = 0 then 0
    else if 16 < sizeL (c :: t) then 16
    else gl (t.drop (sizeL (c :: t) - 1)) + sizeL (c :: t)
  termination_by L.length
  decreasing_by all_goals (simp <;> omega)
theorem gl_cons (c : UInt8) (t : List UInt8) : gl (c :: t) = if blankN c.toNat = true then gl t + 1
    else if c.toNat = 37 then gl (t.drop (lineL t)) + (1 + lineL t)
    else if sizeL (c :: t) = 0 then 0
    else if 16 < sizeL (c :: t) then 16
    else gl (t.drop (sizeL (c :: t) - 1)) + sizeL (c :: t) := by rw [gl]
theorem gl_nil : gl [] = 0 := by rw [gl]
/-- The word that is too long, its first sixteen bytes, if that is the fault. -/
def ov (L : List UInt8) (a : Nat) : List Wd :=
  match L with
  | [] => []
  | c :: t =>
    if blankN c.toNat = true then ov t (a + 1)
    else if c.toNat = 37 then ov (t.drop (lineL t)) (a + 1 + lineL t)
    else if sizeL (c :: t) = 0 then []
    else if 16 < sizeL (c :: t) then [(kindL (c :: t), (c :: t).take 16, a)]
    else ov (t.drop (sizeL (c :: t) - 1)) (a + sizeL (c :: t))
  termination_by L.length
  decreasing_by all_goals (simp <;> omega)
theorem ov_cons (c : UInt8) (t : List UInt8) (a : Nat) : ov (c :: t) a = if blankN c.toNat = true then ov t (a + 1)
    else if c.toNat = 37 then ov (t.drop (lineL t)) (a + 1 + lineL t)
    else if sizeL (c :: t) = 0 then []
    else if 16 < sizeL (c :: t) then [(kindL (c :: t), (c :: t).take 16, a)]
    else ov (t.drop (sizeL (c :: t) - 1)) (a + sizeL (c :: t)) := by rw [ov]

theorem scan_blank' (c : UInt8) (t : List UInt8) (a : Nat) (h : blankN c.toNat = true) : scanL (c :: t) a = scanL t (a + 1) := by rw [scanL_cons, if_pos h]
theorem line_cut (t : List UInt8) (n : Nat) (h : n ≤ lineL t) : lineL (t.take n) = n := runP_cut _ _ _ h
theorem line_beyond (t : List UInt8) (n : Nat) (h : lineL t ≤ n) : lineL (t.take n) = lineL t := runP_beyond _ _ _ h
theorem scan_note' (c : UInt8) (t : List UInt8) (a : Nat) (h : c.toNat = 37) : scanL (c :: t) a = scanL (t.drop (lineL t)) (a + 1 + lineL t) := by
  rw [scanL_cons, if_neg (by rw [h]; decide), if_pos h]
theorem scan_word' (c : UInt8) (t : List UInt8) (a : Nat) (hb : ¬ blankN c.toNat = true) (hn : ¬ c.toNat = 37) (h0 : sizeL (c :: t) ≠ 0) (h16 : ¬ 16 < sizeL (c :: t)) :
    scanL (c :: t) a = (scanL (t.drop (sizeL (c :: t) - 1)) (a + sizeL (c :: t))).map (fun r => (kindL (c :: t), (c :: t).take (sizeL (c :: t)), a) :: r) := by
  rw [scanL_cons, if_neg hb, if_neg hn, if_neg (by omega)]
theorem scan_bad' (c : UInt8) (t : List UInt8) (a : Nat) (hb : ¬ blankN c.toNat = true) (hn : ¬ c.toNat = 37) (h : sizeL (c :: t) = 0 ∨ 16 < sizeL (c :: t)) : scanL (c :: t) a = none := by
  rw [scanL_cons, if_neg hb, if_neg hn, if_pos h]

theorem none_any (n : Nat) : ∀ (L : List UInt8) (a b : Nat), L.length ≤ n → scanL L a = none → scanL L b = none := by
  induction n with
  | zero =>
    intro L a b hl h
    obtain rfl : L = [] := by cases L; rfl; simp at hl
    rw [scanL_nil] at h
    cases h
  | succ n ih =>
    intro L a b hl h
    match L with
    | [] =>
      rw [scanL_nil] at h
      cases h
    | c :: t =>
      simp only [List.length_cons] at hl
      rw [scanL_cons] at h ⊢
      by_cases hb : blankN c.toNat = true
      · rw [if_pos hb] at h ⊢
        exact ih t _ _ (by omega) h
      · rw [if_neg hb] at h ⊢
        by_cases hn : c.toNat = 37
        · rw [if_pos hn] at h ⊢
          exact ih _ _ _ (by rw [List.length_drop]; omega) h
        · rw [if_neg hn] at h ⊢
          by_cases hs : sizeL (c :: t) = 0 ∨ 16 < sizeL (c :: t)
          · rw [if_pos hs]
          · rw [if_neg hs] at h ⊢
            rw [Option.map_eq_none_iff] at h ⊢
            exact ih _ _ _ (by rw [List.length_drop]; omega) h
theorem drop_take' (t : List UInt8) (n k : Nat) : (t.take n).drop k = (t.drop k).take (n - k) := List.drop_take

/-- Which beginnings have a fault, and the words of the longest that has none. -/
theorem cut_all (N : Nat) : ∀ (L : List UInt8), L.length ≤ N → (∃ a, scanL L a = none) →
    gl L < L.length ∧
    (∀ n a, n < gl L → (scanL (L.take n) a).isSome = true ∨ (scanL (L.take (n + 1)) a).isSome = true) ∧
    (∀ n a, gl L < n → scanL (L.take n) a = none) ∧
    (∀ a, scanL (L.take (gl L)) a = some (frontL L a ++ ov L a)) := by
  induction N with
  | zero =>
    intro L hl ⟨a, hn⟩
    obtain rfl : L = [] := by cases L; rfl; simp at hl
    rw [scanL_nil] at hn
    cases hn
  | succ N ih =>
    intro L hl ⟨a0, hnone⟩
    match L with
    | [] =>
      rw [scanL_nil] at hnone
      cases hnone
    | c :: t =>
      simp only [List.length_cons] at hl ⊢
      by_cases hb : blankN c.toNat = true
      · rw [scan_blank' c t a0 hb] at hnone
        obtain ⟨g1, g2, g3, g4⟩ := ih t (by omega) ⟨_, hnone⟩
        have eg : gl (c :: t) = gl t + 1 := by rw [gl_cons, if_pos hb]
        have eo : ∀ a, ov (c :: t) a = ov t (a + 1) := fun a => by rw [ov_cons, if_pos hb]
        have ef : ∀ a, frontL (c :: t) a = frontL t (a + 1) := fun a => by rw [frontL_cons, if_pos hb]
        rw [eg]
        refine ⟨by omega, fun n a hn => ?_, fun n a hn => ?_, fun a => ?_⟩
        · cases n with
          | zero => left; simp [scanL_nil]
          | succ n =>
            rw [List.take_succ_cons, List.take_succ_cons, scan_blank' _ _ _ hb, scan_blank' _ _ _ hb]
            exact g2 n (a + 1) (by omega)
        · obtain ⟨k, rfl⟩ : ∃ k, n = k + 1 := ⟨n - 1, by omega⟩
          rw [List.take_succ_cons, scan_blank' _ _ _ hb]
          exact g3 k (a + 1) (by omega)
        · rw [List.take_succ_cons, scan_blank' _ _ _ hb, g4, ef, eo]
      · by_cases h37 : c.toNat = 37
        · rw [scan_note' c t a0 h37] at hnone
          obtain ⟨g1, g2, g3, g4⟩ := ih (t.drop (lineL t)) (by rw [List.length_drop]; omega) ⟨_, hnone⟩
          rw [List.length_drop] at g1
          have hll : lineL t ≤ t.length := runP_le _ _
          have eg : gl (c :: t) = gl (t.drop (lineL t)) + (1 + lineL t) := by rw [gl_cons, if_neg hb, if_pos h37]
          have eo : ∀ a, ov (c :: t) a = ov (t.drop (lineL t)) (a + 1 + lineL t) := fun a => by rw [ov_cons, if_neg hb, if_pos h37]
          have ef : ∀ a, frontL (c :: t) a = frontL (t.drop (lineL t)) (a + 1 + lineL t) := fun a => by rw [frontL_cons, if_neg hb, if_pos h37]
          -- behind the line
          have far : ∀ n a, lineL t ≤ n → scanL ((c :: t).take (n + 1)) a = scanL ((t.drop (lineL t)).take (n - lineL t)) (a + 1 + lineL t) := fun n a hn => by
            rw [List.take_succ_cons, scan_note' _ _ _ h37, line_beyond t n hn, drop_take']
          have near : ∀ n a, n ≤ lineL t → scanL ((c :: t).take (n + 1)) a = some [] := fun n a hn => by
            rw [List.take_succ_cons, scan_note' _ _ _ h37, line_cut t n hn, drop_take', Nat.sub_self, List.take_zero, scanL_nil]
          rw [eg]
          refine ⟨by omega, fun n a hn => ?_, fun n a hn => ?_, fun a => ?_⟩
          · cases n with
            | zero => left; simp [scanL_nil]
            | succ n =>
              by_cases hnl : n ≤ lineL t
              · left; rw [near n a hnl]; rfl
              · rw [far n a (by omega), far (n + 1) a (by omega), show n + 1 - lineL t = (n - lineL t) + 1 by omega]
                exact g2 _ _ (by omega)
          · obtain ⟨k, rfl⟩ : ∃ k, n = k + 1 := ⟨n - 1, by omega⟩
            rw [far k a (by omega)]
            exact g3 _ _ (by omega)
          · rw [show gl (t.drop (lineL t)) + (1 + lineL t) = (gl (t.drop (lineL t)) + lineL t) + 1 by omega, far _ _ (by omega), Nat.add_sub_cancel, g4, ef, eo]
        · by_cases h0 : sizeL (c :: t) = 0
          · have eg : gl (c :: t) = 0 := by rw [gl_cons, if_neg hb, if_neg h37, if_pos h0]
            have eo : ∀ a, ov (c :: t) a = [] := fun a => by rw [ov_cons, if_neg hb, if_neg h37, if_pos h0]
            have ef : ∀ a, frontL (c :: t) a = [] := fun a => by rw [frontL_cons, if_neg hb, if_neg h37, if_pos (Or.inl h0)]
            rw [eg]
            refine ⟨by omega, fun n a hn => absurd hn (by omega), fun n a hn => ?_, fun a => ?_⟩
            · have hz := size_zero c t n (by omega) h0
              obtain ⟨k, rfl⟩ : ∃ k, n = k + 1 := ⟨n - 1, by omega⟩
              rw [List.take_succ_cons] at hz ⊢
              exact scan_bad' _ _ _ hb h37 (Or.inl hz)
            · rw [List.take_zero, scanL_nil, ef, eo]
              rfl
          · have hsl := sizeL_le (c :: t)
            simp only [List.length_cons] at hsl
            -- within the first word
            have near : ∀ n a, 1 ≤ n → n ≤ sizeL (c :: t) → n ≤ 16 → (scanL ((c :: t).take n) a).isSome = true ∨ (n = 1 ∧ 2 ≤ sizeL (c :: t)) := fun n a h1 h2 h3 => by
              rcases size_cut c t n h1 h2 with hs | ⟨hs, h2', _⟩
              · left
                obtain ⟨k, rfl⟩ : ∃ k, n = k + 1 := ⟨n - 1, by omega⟩
                rw [List.take_succ_cons] at hs ⊢
                rw [scan_word' _ _ _ hb h37 (by omega) (by omega), hs, Nat.add_sub_cancel, drop_take', Nat.sub_self, List.take_zero, scanL_nil]
                rfl
              · right; exact ⟨hs, h2'⟩
            have exact16 : ∀ n a, 1 ≤ n → n ≤ sizeL (c :: t) → n ≤ 16 → (2 ≤ n ∨ sizeL (c :: t) = 1) → scanL ((c :: t).take n) a = some [(kindL (c :: t), (c :: t).take n, a)] := fun n a h1 h2 h3 h4 => by
              rcases size_cut c t n h1 h2 with hs | ⟨hs, h2', _⟩
              · obtain ⟨k, rfl⟩ : ∃ k, n = k + 1 := ⟨n - 1, by omega⟩
                have hk := kind_take c t k
                rw [List.take_succ_cons] at hs hk ⊢
                rw [scan_word' _ _ _ hb h37 (by omega) (by omega), hs, Nat.add_sub_cancel, drop_take', Nat.sub_self, List.take_zero, scanL_nil, hk]
                simp [List.take_take]
              · omega
            by_cases h16 : 16 < sizeL (c :: t)
            · have eg : gl (c :: t) = 16 := by rw [gl_cons, if_neg hb, if_neg h37, if_neg h0, if_pos h16]
              have eo : ∀ a, ov (c :: t) a = [(kindL (c :: t), (c :: t).take 16, a)] := fun a => by rw [ov_cons, if_neg hb, if_neg h37, if_neg h0, if_pos h16]
              have ef : ∀ a, frontL (c :: t) a = [] := fun a => by rw [frontL_cons, if_neg hb, if_neg h37, if_pos (Or.inr h16)]
              rw [eg]
              refine ⟨by omega, fun n a hn => ?_, fun n a hn => ?_, fun a => ?_⟩
              · cases n with
                | zero => left; simp [scanL_nil]
                | succ n =>
                  rcases near (n + 1) a (by omega) (by omega) (by omega) with h | ⟨h1, _⟩
                  · exact Or.inl h
                  · right
                    rw [exact16 (n + 1 + 1) a (by omega) (by omega) (by omega) (by omega)]
                    rfl
              · have hbig : 16 < sizeL ((c :: t).take n) := by
                  by_cases hle : n ≤ sizeL (c :: t)
                  · rcases size_cut c t n (by omega) hle with hs | ⟨hs, _⟩
                    · omega
                    · omega
                  · rw [size_beyond c t n (by omega) (by omega) h0]
                    exact h16
                obtain ⟨k, rfl⟩ : ∃ k, n = k + 1 := ⟨n - 1, by omega⟩
                rw [List.take_succ_cons] at hbig ⊢
                exact scan_bad' _ _ _ hb h37 (Or.inr hbig)
              · rw [exact16 16 a (by omega) (by omega) (by omega) (by omega), ef, eo]
                rfl
            · rw [scan_word' c t a0 hb h37 h0 h16, Option.map_eq_none_iff] at hnone
              obtain ⟨g1, g2, g3, g4⟩ := ih (t.drop (sizeL (c :: t) - 1)) (by rw [List.length_drop]; omega) ⟨_, hnone⟩
              rw [List.length_drop] at g1
              have eg : gl (c :: t) = gl (t.drop (sizeL (c :: t) - 1)) + sizeL (c :: t) := by rw [gl_cons, if_neg hb, if_neg h37, if_neg h0, if_neg h16]
              have eo : ∀ a, ov (c :: t) a = ov (t.drop (sizeL (c :: t) - 1)) (a + sizeL (c :: t)) := fun a => by rw [ov_cons, if_neg hb, if_neg h37, if_neg h0, if_neg h16]
              have ef : ∀ a, frontL (c :: t) a = (kindL (c :: t), (c :: t).take (sizeL (c :: t)), a) :: frontL (t.drop (sizeL (c :: t) - 1)) (a + sizeL (c :: t)) := fun a => by rw [frontL_cons, if_neg hb, if_neg h37, if_neg (by omega)]
              have far : ∀ n a, sizeL (c :: t) ≤ n → scanL ((c :: t).take n) a = (scanL ((t.drop (sizeL (c :: t) - 1)).take (n - sizeL (c :: t))) (a + sizeL (c :: t))).map (fun r => (kindL (c :: t), (c :: t).take (sizeL (c :: t)), a) :: r) := fun n a hn => by
                have hs := size_beyond c t n (by omega) hn h0
                obtain ⟨k, rfl⟩ : ∃ k, n = k + 1 := ⟨n - 1, by omega⟩
                have hk := kind_take c t k
                have htt : ((c :: t).take (k + 1)).take (sizeL (c :: t)) = (c :: t).take (sizeL (c :: t)) := by rw [List.take_take, Nat.min_eq_left hn]
                rw [List.take_succ_cons] at hs hk htt ⊢
                rw [scan_word' _ _ _ hb h37 (by omega) (by omega), hs, hk, htt, drop_take', show k - (sizeL (c :: t) - 1) = k + 1 - sizeL (c :: t) by omega]
              rw [eg]
              refine ⟨by omega, fun n a hn => ?_, fun n a hn => ?_, fun a => ?_⟩
              · cases n with
                | zero => left; simp [scanL_nil]
                | succ n =>
                  by_cases hle : n + 1 < sizeL (c :: t)
                  · rcases near (n + 1) a (by omega) (by omega) (by omega) with h | ⟨h1, _⟩
                    · exact Or.inl h
                    · right
                      rw [exact16 (n + 1 + 1) a (by omega) (by omega) (by omega) (by omega)]
                      rfl
                  · rw [far (n + 1) a (by omega), far (n + 1 + 1) a (by omega), show n + 1 + 1 - sizeL (c :: t) = (n + 1 - sizeL (c :: t)) + 1 by omega, Option.isSome_map, Option.isSome_map]
                    exact g2 _ _ (by omega)
              · rw [far n a (by omega), g3 _ _ (by omega)]
                rfl
              · rw [far _ a (by omega), Nat.add_sub_cancel, g4, ef, eo]
                rfl
end Go.Proofs.YtcfhpodpkficaaaGreatDoor.Ft
