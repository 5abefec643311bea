/- The law's first steps: two rules. The walks of Rules, Defined and begun. The law of variables: what it has in memory. A rule's head ahead of its body, in memory. The reference's Safe, in plain mathematics. -/
import Derived.Test.YtienpejlfjhnmaaPart14
import Derived.Test.YtienpejlfjhnmaaPart10
import Derived.Test.YtienpejlfjhnmaaPart11
import Derived.Laws.OwnMore
namespace Go.Proofs.Ytienpejlfjhnmaa.Ck
open Go.RowKit
open Lx (Wd tx bs scanL scanL_nil scanL_cons blankN sizeL kindL scanAt)
open Vl (Tm Fr)
open Sy

theorem step_word (c : UInt8) (t : List UInt8) (a n k : Nat) (x r : List UInt8) (L : List Wd) (h1 : blankN c.toNat = false) (h2 : ¬ c.toNat = 37) (h3 : sizeL (c :: t) = n) (h4 : ¬ (n = 0 ∨ 16 < n)) (h5 : t.drop (n - 1) = r) (h6 : kindL (c :: t) = k) (h7 : (c :: t).take n = x) (h8 : scanL r (a + n) = some L) : scanL (c :: t) a = some ((k, x, a) :: L) := by
  rw [scanL_cons, if_neg (by rw [h1]; decide), if_neg h2, h3, if_neg h4, h5, h6, h7, h8]
  rfl
theorem step_blank (c : UInt8) (t : List UInt8) (a : Nat) (L : List Wd) (h1 : blankN c.toNat = true) (h8 : scanL t (a + 1) = some L) : scanL (c :: t) a = some L := by
  rw [scanL_cons, if_pos h1, h8]

theorem beg1 : scanL [112, 40, 88, 41, 32, 58, 45, 32, 113, 40, 88, 41, 44, 32, 33, 114, 40, 88, 41, 46, 32, 112, 40, 89, 41, 32, 58, 45, 32, 113, 40, 88, 41, 44, 32, 89, 32, 60, 32, 88, 46] 0 = some [(1, [112], 0), (4, [40], 1), (2, [88], 2), (4, [41], 3), (4, [58, 45], 5), (1, [113], 8), (4, [40], 9), (2, [88], 10), (4, [41], 11), (4, [44], 12), (4, [33], 14), (1, [114], 15), (4, [40], 16), (2, [88], 17), (4, [41], 18), (4, [46], 19), (1, [112], 21), (4, [40], 22), (2, [89], 23), (4, [41], 24), (4, [58, 45], 26), (1, [113], 29), (4, [40], 30), (2, [88], 31), (4, [41], 32), (4, [44], 33), (2, [89], 35), (4, [60], 37), (2, [88], 39), (4, [46], 40)] := by
  have s40 := step_word 46 [] 40 1 4 [46] _ _ (by decide) (by decide) (by decide) (by decide) rfl (by decide) rfl (scanL_nil 41)
  have s39 := step_word 88 [46] 39 1 2 [88] _ _ (by decide) (by decide) (by decide) (by decide) rfl (by decide) rfl s40
  have s38 := step_blank 32 [88, 46] 38 _ (by decide) s39
  have s37 := step_word 60 [32, 88, 46] 37 1 4 [60] _ _ (by decide) (by decide) (by decide) (by decide) rfl (by decide) rfl s38
  have s36 := step_blank 32 [60, 32, 88, 46] 36 _ (by decide) s37
  have s35 := step_word 89 [32, 60, 32, 88, 46] 35 1 2 [89] _ _ (by decide) (by decide) (by decide) (by decide) rfl (by decide) rfl s36
  have s34 := step_blank 32 [89, 32, 60, 32, 88, 46] 34 _ (by decide) s35
  have s33 := step_word 44 [32, 89, 32, 60, 32, 88, 46] 33 1 4 [44] _ _ (by decide) (by decide) (by decide) (by decide) rfl (by decide) rfl s34
  have s32 := step_word 41 [44, 32, 89, 32, 60, 32, 88, 46] 32 1 4 [41] _ _ (by decide) (by decide) (by decide) (by decide) rfl (by decide) rfl s33
  have s31 := step_word 88 [41, 44, 32, 89, 32, 60, 32, 88, 46] 31 1 2 [88] _ _ (by decide) (by decide) (by decide) (by decide) rfl (by decide) rfl s32
  have s30 := step_word 40 [88, 41, 44, 32, 89, 32, 60, 32, 88, 46] 30 1 4 [40] _ _ (by decide) (by decide) (by decide) (by decide) rfl (by decide) rfl s31
  have s29 := step_word 113 [40, 88, 41, 44, 32, 89, 32, 60, 32, 88, 46] 29 1 1 [113] _ _ (by decide) (by decide) (by decide) (by decide) rfl (by decide) rfl s30
  have s28 := step_blank 32 [113, 40, 88, 41, 44, 32, 89, 32, 60, 32, 88, 46] 28 _ (by decide) s29
  have s26 := step_word 58 [45, 32, 113, 40, 88, 41, 44, 32, 89, 32, 60, 32, 88, 46] 26 2 4 [58, 45] _ _ (by decide) (by decide) (by decide) (by decide) rfl (by decide) rfl s28
  have s25 := step_blank 32 [58, 45, 32, 113, 40, 88, 41, 44, 32, 89, 32, 60, 32, 88, 46] 25 _ (by decide) s26
  have s24 := step_word 41 [32, 58, 45, 32, 113, 40, 88, 41, 44, 32, 89, 32, 60, 32, 88, 46] 24 1 4 [41] _ _ (by decide) (by decide) (by decide) (by decide) rfl (by decide) rfl s25
  have s23 := step_word 89 [41, 32, 58, 45, 32, 113, 40, 88, 41, 44, 32, 89, 32, 60, 32, 88, 46] 23 1 2 [89] _ _ (by decide) (by decide) (by decide) (by decide) rfl (by decide) rfl s24
  have s22 := step_word 40 [89, 41, 32, 58, 45, 32, 113, 40, 88, 41, 44, 32, 89, 32, 60, 32, 88, 46] 22 1 4 [40] _ _ (by decide) (by decide) (by decide) (by decide) rfl (by decide) rfl s23
  have s21 := step_word 112 [40, 89, 41, 32, 58, 45, 32, 113, 40, 88, 41, 44, 32, 89, 32, 60, 32, 88, 46] 21 1 1 [112] _ _ (by decide) (by decide) (by decide) (by decide) rfl (by decide) rfl s22
  have s20 := step_blank 32 [112, 40, 89, 41, 32, 58, 45, 32, 113, 40, 88, 41, 44, 32, 89, 32, 60, 32, 88, 46] 20 _ (by decide) s21
  have s19 := step_word 46 [32, 112, 40, 89, 41, 32, 58, 45, 32, 113, 40, 88, 41, 44, 32, 89, 32, 60, 32, 88, 46] 19 1 4 [46] _ _ (by decide) (by decide) (by decide) (by decide) rfl (by decide) rfl s20
  have s18 := step_word 41 [46, 32, 112, 40, 89, 41, 32, 58, 45, 32, 113, 40, 88, 41, 44, 32, 89, 32, 60, 32, 88, 46] 18 1 4 [41] _ _ (by decide) (by decide) (by decide) (by decide) rfl (by decide) rfl s19
  have s17 := step_word 88 [41, 46, 32, 112, 40, 89, 41, 32, 58, 45, 32, 113, 40, 88, 41, 44, 32, 89, 32, 60, 32, 88, 46] 17 1 2 [88] _ _ (by decide) (by decide) (by decide) (by decide) rfl (by decide) rfl s18
  have s16 := step_word 40 [88, 41, 46, 32, 112, 40, 89, 41, 32, 58, 45, 32, 113, 40, 88, 41, 44, 32, 89, 32, 60, 32, 88, 46] 16 1 4 [40] _ _ (by decide) (by decide) (by decide) (by decide) rfl (by decide) rfl s17
  have s15 := step_word 114 [40, 88, 41, 46, 32, 112, 40, 89, 41, 32, 58, 45, 32, 113, 40, 88, 41, 44, 32, 89, 32, 60, 32, 88, 46] 15 1 1 [114] _ _ (by decide) (by decide) (by decide) (by decide) rfl (by decide) rfl s16
  have s14 := step_word 33 [114, 40, 88, 41, 46, 32, 112, 40, 89, 41, 32, 58, 45, 32, 113, 40, 88, 41, 44, 32, 89, 32, 60, 32, 88, 46] 14 1 4 [33] _ _ (by decide) (by decide) (by decide) (by decide) rfl (by decide) rfl s15
  have s13 := step_blank 32 [33, 114, 40, 88, 41, 46, 32, 112, 40, 89, 41, 32, 58, 45, 32, 113, 40, 88, 41, 44, 32, 89, 32, 60, 32, 88, 46] 13 _ (by decide) s14
  have s12 := step_word 44 [32, 33, 114, 40, 88, 41, 46, 32, 112, 40, 89, 41, 32, 58, 45, 32, 113, 40, 88, 41, 44, 32, 89, 32, 60, 32, 88, 46] 12 1 4 [44] _ _ (by decide) (by decide) (by decide) (by decide) rfl (by decide) rfl s13
  have s11 := step_word 41 [44, 32, 33, 114, 40, 88, 41, 46, 32, 112, 40, 89, 41, 32, 58, 45, 32, 113, 40, 88, 41, 44, 32, 89, 32, 60, 32, 88, 46] 11 1 4 [41] _ _ (by decide) (by decide) (by decide) (by decide) rfl (by decide) rfl s12
  have s10 := step_word 88 [41, 44, 32, 33, 114, 40, 88, 41, 46, 32, 112, 40, 89, 41, 32, 58, 45, 32, 113, 40, 88, 41, 44, 32, 89, 32, 60, 32, 88, 46] 10 1 2 [88] _ _ (by decide) (by decide) (by decide) (by decide) rfl (by decide) rfl s11
  have s9 := step_word 40 [88, 41, 44, 32, 33, 114, 40, 88, 41, 46, 32, 112, 40, 89, 41, 32, 58, 45, 32, 113, 40, 88, 41, 44, 32, 89, 32, 60, 32, 88, 46] 9 1 4 [40] _ _ (by decide) (by decide) (by decide) (by decide) rfl (by decide) rfl s10
  have s8 := step_word 113 [40, 88, 41, 44, 32, 33, 114, 40, 88, 41, 46, 32, 112, 40, 89, 41, 32, 58, 45, 32, 113, 40, 88, 41, 44, 32, 89, 32, 60, 32, 88, 46] 8 1 1 [113] _ _ (by decide) (by decide) (by decide) (by decide) rfl (by decide) rfl s9
  have s7 := step_blank 32 [113, 40, 88, 41, 44, 32, 33, 114, 40, 88, 41, 46, 32, 112, 40, 89, 41, 32, 58, 45, 32, 113, 40, 88, 41, 44, 32, 89, 32, 60, 32, 88, 46] 7 _ (by decide) s8
  have s5 := step_word 58 [45, 32, 113, 40, 88, 41, 44, 32, 33, 114, 40, 88, 41, 46, 32, 112, 40, 89, 41, 32, 58, 45, 32, 113, 40, 88, 41, 44, 32, 89, 32, 60, 32, 88, 46] 5 2 4 [58, 45] _ _ (by decide) (by decide) (by decide) (by decide) rfl (by decide) rfl s7
  have s4 := step_blank 32 [58, 45, 32, 113, 40, 88, 41, 44, 32, 33, 114, 40, 88, 41, 46, 32, 112, 40, 89, 41, 32, 58, 45, 32, 113, 40, 88, 41, 44, 32, 89, 32, 60, 32, 88, 46] 4 _ (by decide) s5
  have s3 := step_word 41 [32, 58, 45, 32, 113, 40, 88, 41, 44, 32, 33, 114, 40, 88, 41, 46, 32, 112, 40, 89, 41, 32, 58, 45, 32, 113, 40, 88, 41, 44, 32, 89, 32, 60, 32, 88, 46] 3 1 4 [41] _ _ (by decide) (by decide) (by decide) (by decide) rfl (by decide) rfl s4
  have s2 := step_word 88 [41, 32, 58, 45, 32, 113, 40, 88, 41, 44, 32, 33, 114, 40, 88, 41, 46, 32, 112, 40, 89, 41, 32, 58, 45, 32, 113, 40, 88, 41, 44, 32, 89, 32, 60, 32, 88, 46] 2 1 2 [88] _ _ (by decide) (by decide) (by decide) (by decide) rfl (by decide) rfl s3
  have s1 := step_word 40 [88, 41, 32, 58, 45, 32, 113, 40, 88, 41, 44, 32, 33, 114, 40, 88, 41, 46, 32, 112, 40, 89, 41, 32, 58, 45, 32, 113, 40, 88, 41, 44, 32, 89, 32, 60, 32, 88, 46] 1 1 4 [40] _ _ (by decide) (by decide) (by decide) (by decide) rfl (by decide) rfl s2
  have s0 := step_word 112 [40, 88, 41, 32, 58, 45, 32, 113, 40, 88, 41, 44, 32, 33, 114, 40, 88, 41, 46, 32, 112, 40, 89, 41, 32, 58, 45, 32, 113, 40, 88, 41, 44, 32, 89, 32, 60, 32, 88, 46] 0 1 1 [112] _ _ (by decide) (by decide) (by decide) (by decide) rfl (by decide) rfl s1
  exact s0

def begT : ByteArray := ⟨#[112, 40, 88, 41, 32, 58, 45, 32, 113, 40, 88, 41, 44, 32, 33, 114, 40, 88, 41, 46, 32, 112, 40, 89, 41, 32, 58, 45, 32, 113, 40, 88, 41, 44, 32, 89, 32, 60, 32, 88, 46]⟩
def varT (x : List UInt8) : Tm := (1, tx x, 0)
def begR : List Rul := [((1, tx [112], [varT [88]]), [(1, tx [113], [varT [88]]), (2, tx [114], [varT [88]])]), ((1, tx [112], [varT [89]]), [(1, tx [113], [varT [88]]), (5, ⟨#[]⟩, [varT [89], varT [88]])])]
theorem parse1 : progL 30 [(1, [112], 0), (4, [40], 1), (2, [88], 2), (4, [41], 3), (4, [58, 45], 5), (1, [113], 8), (4, [40], 9), (2, [88], 10), (4, [41], 11), (4, [44], 12), (4, [33], 14), (1, [114], 15), (4, [40], 16), (2, [88], 17), (4, [41], 18), (4, [46], 19), (1, [112], 21), (4, [40], 22), (2, [89], 23), (4, [41], 24), (4, [58, 45], 26), (1, [113], 29), (4, [40], 30), (2, [88], 31), (4, [41], 32), (4, [44], 33), (2, [89], 35), (4, [60], 37), (2, [88], 39), (4, [46], 40)] = .ok begR := by kernel_rfl

/-- The rules of a text; none: it is no program. -/
def okRs : Except Bool (List Rul) → List Rul
  | .ok l => l
  | .error _ => []
def rulesS (s : ByteArray) : List Rul := okRs (progL 30 (wordsL (bs (Lx.cutS s 1200))))
theorem beg_rules : rulesS begT = begR := by
  have h1 : wordsL (bs begT) = [(1, [112], 0), (4, [40], 1), (2, [88], 2), (4, [41], 3), (4, [58, 45], 5), (1, [113], 8), (4, [40], 9), (2, [88], 10), (4, [41], 11), (4, [44], 12), (4, [33], 14), (1, [114], 15), (4, [40], 16), (2, [88], 17), (4, [41], 18), (4, [46], 19), (1, [112], 21), (4, [40], 22), (2, [89], 23), (4, [41], 24), (4, [58, 45], 26), (1, [113], 29), (4, [40], 30), (2, [88], 31), (4, [41], 32), (4, [44], 33), (2, [89], 35), (4, [60], 37), (2, [88], 39), (4, [46], 40)] := by
    have h2 : scanAt (bs begT) 0 = some [(1, [112], 0), (4, [40], 1), (2, [88], 2), (4, [41], 3), (4, [58, 45], 5), (1, [113], 8), (4, [40], 9), (2, [88], 10), (4, [41], 11), (4, [44], 12), (4, [33], 14), (1, [114], 15), (4, [40], 16), (2, [88], 17), (4, [41], 18), (4, [46], 19), (1, [112], 21), (4, [40], 22), (2, [89], 23), (4, [41], 24), (4, [58, 45], 26), (1, [113], 29), (4, [40], 30), (2, [88], 31), (4, [41], 32), (4, [44], 33), (2, [89], 35), (4, [60], 37), (2, [88], 39), (4, [46], 40)] := beg1
    rw [wordsL, h2]
  have h3 : Lx.cutS begT 1200 = begT := by kernel_rfl
  rw [rulesS, h3, h1, parse1]
  rfl

theorem rules_any (s : ByteArray) (w : World) : Calls Try.prog 6 #[.string s] w fun e w' => (∃ y, e = .returned y ∧ isRs w' (rulesS s) y) ∧ Below w.heap.size w w' := by
  have hcs := Lx.cutS_size s 1200
  have HC := hide (Lx.cutS_any s 1200)
  obtain ⟨R, hR⟩ : ∃ R, Hid (progL 30 (wordsL (bs (Lx.cutS s 1200))) = R) := ⟨_, rfl⟩
  have HP := hide (Rp.rprogram_any (Lx.cutS s 1200) w (by omega))
  have HQ : Hid (rulesS s = okRs R) := by show _ = _; rw [rulesS, hR.out]
  rw [hR.out] at HP
  clear hR
  go_enter Try.func6, Try.ntmps6
  go_wp2_with fail
  refine Calls.mono (HC.out w) ?_
  rintro e w2 ⟨rfl, hw2⟩
  have hw2' := hw2.symm
  subst hw2'
  clear hw2 HC
  generalize Lx.cutS s 1200 = t at *
  go_wp2_with fail
  refine Calls.mono HP.out ?_
  rintro e w3 ⟨hz, hb⟩
  cases R with
  | error c =>
    obtain rfl := hz
    cases c
    all_goals simp only [Bool.false_eq_true, if_false, if_true]
    all_goals go_wp2_with fail
    all_goals go_ret
    all_goals exact ⟨⟨_, rfl, by rw [HQ.out]; exact ⟨[], rfl, ⟨by simp [cellsRz], .inl ⟨rfl, rfl⟩⟩, by simp⟩⟩, hb⟩
  | ok l =>
    obtain ⟨y, rfl, hy⟩ := hz
    obtain ⟨ao, cap, rfl⟩ := Rp.isRs_shape hy
    have HY := hide hy
    clear hy
    go_wp2_with fail
    go_ret
    exact ⟨⟨_, rfl, by rw [HQ.out]; exact HY.out⟩, hb⟩

/-- Is it the head of a rule? -/
def defR (rs : List Rul) (nm : ByteArray) : Bool := rs.any fun q => q.1.2.1.toList == nm.toList
theorem any_take {α : Type} {p : α → Bool} {ls : List α} {k : Nat} (h : k < ls.length) : (ls.take (k + 1)).any p = ((ls.take k).any p || p ls[k]) := by
  rw [List.take_succ_eq_append_getElem h, List.any_append]
  simp
theorem any_true {α : Type} {p : α → Bool} {ls : List α} {k : Nat} (h : k < ls.length) (hp : p ls[k] = true) : ls.any p = true := by
  rw [List.any_eq_true]
  exact ⟨_, List.getElem_mem h, hp⟩

set_option maxRecDepth 10000 in
set_option maxHeartbeats 2000000 in
theorem defined_any (nm : ByteArray) {rs : List Rul} {v : Value} {w : World} (h : isRs w rs v) (hl : rs.length ≤ 1000000) :
    Calls Try.prog 11 #[v, .string nm] w fun e w' => e = .returned (.bool (defR rs nm)) ∧ Below w.heap.size w w' := by
  obtain ⟨ao, cap, rfl⟩ := Rp.isRs_shape h
  have HC := hide (Rp.isRs_cells h).2
  clear h
  obtain ⟨p, hp⟩ : ∃ p : Rul → Bool, p = fun q => q.1.2.1.toList == nm.toList := ⟨_, rfl⟩
  have HD : Hid (defR rs nm = rs.any p) := by rw [hp]; rfl
  have HP := hide hp
  clear hp
  go_enter Try.func11, Try.ntmps11
  go_wp2_with fail
  go_loopw [9] (fun iv wr => ∃ i : Nat, iv = .int .i64 i ∧ i ≤ rs.length ∧ Hid ((rs.take i).any p = false) ∧ Hid (Below w.heap.size w wr)) (fun iv _ => rs.length - (intOf iv).toNat)
  case atStart => exact ⟨0, rfl, Nat.zero_le _, rfl, Below.refl _ _⟩
  case round =>
    obtain ⟨i, rfl, hi, HI, HB⟩ := hrel
    by_cases hlt : i < rs.length
    · have hltI : (i : Int) < (rs.length : Int) := by omega
      obtain ⟨g, rfl, hc⟩ := HC.out (by omega)
      obtain ⟨u, x, hu, hx, k0, k1, k2, k3⟩ := hc i hlt
      have k0 := cell_below' k0 HB.out
      have k1 := cell_below' k1 HB.out
      have k2 := cell_below' k2 HB.out
      have k3 := cell_below' k3 HB.out
      have HAT := hide (any_take (p := p) hlt)
      have HAF : Hid (p rs[i] = true → rs.any p = true) := fun hp => any_true hlt hp
      have HPP : Hid (p rs[i] = (rs[i].1.2.1.toList == nm.toList)) := by show _ = _; rw [HP.out]
      obtain ⟨_, aou, capu, rfl⟩ := own_len hu
      obtain ⟨aox, capx, rfl⟩ := isLs_shape hx
      clear hc hu hx
      generalize rs[i] = q at *
      obtain ⟨⟨qk, qn, qt⟩, qb⟩ := q
      simp only at k0 k1 k2 k3 HPP
      cases hq : (qn.toList == nm.toList)
      · rw [hq] at HPP
        go_wp2_with fail
        go_roundw
        case rel => exact ⟨i + 1, by go_num, by omega, by rw [HAT.out, HI.out, HPP.out]; rfl, HB.out.alloc HB.out.size _⟩
        case measure => simp [intOf]; omega
      · rw [hq] at HPP
        go_wp2_with fail
        go_ret
        rw [HD.out, HAF.out HPP.out]
        exact ⟨rfl, HB.out.alloc HB.out.size _⟩
    · have hltI : ¬ (i : Int) < (rs.length : Int) := by omega
      have hie : rs.take i = rs := by rw [show i = rs.length by omega, List.take_length]
      rw [hie] at HI
      clear hie
      go_wp2_with fail
      go_ret
      rw [HD.out, HI.out]
      exact ⟨rfl, HB.out⟩

theorem beg_few : ∀ q ∈ begR, FewR q := by
  intro q hq
  have h1 : ∀ l : List Tm, l = [varT [88]] ∨ l = [varT [89]] ∨ l = [varT [89], varT [88]] → l.length ≤ 1000000 ∧ ∀ t ∈ l, t.2.1.size ≤ maxLen := by
    rintro l (rfl | rfl | rfl)
    · exact ⟨by decide, by decide⟩
    · exact ⟨by decide, by decide⟩
    · exact ⟨by decide, by decide⟩
  rcases List.mem_cons.1 hq with rfl | hq
  · refine ⟨h1 _ (Or.inl rfl), by decide, fun l hl => ?_, by decide⟩
    rcases List.mem_cons.1 hl with rfl | hl
    · exact h1 _ (Or.inl rfl)
    · rw [List.mem_singleton.1 hl]
      exact h1 _ (Or.inl rfl)
  · rw [List.mem_singleton.1 hq]
    refine ⟨h1 _ (Or.inr (Or.inl rfl)), by decide, fun l hl => ?_, by decide⟩
    rcases List.mem_cons.1 hl with rfl | hl
    · exact h1 _ (Or.inl rfl)
    · rw [List.mem_singleton.1 hl]
      exact h1 _ (Or.inr (Or.inr rfl))
theorem beg_safe1 : safeR begR[0] = true := by kernel_rfl
theorem beg_safe2 : safeR begR[1] = false := by kernel_rfl
theorem beg_fold : foldN (rawRs begR ++ []) = ([(tx [112], 1), (tx [113], 1), (tx [114], 1)], true) := by kernel_rfl
theorem beg_ok : ∀ x ∈ rawRs begR ++ [], okP x := by decide
theorem fs_nil (w : World) : FsB w (.slice none 0 0) [] := ⟨none, 0, rfl, by decide, fun h => absurd h (by decide)⟩

set_option maxRecDepth 10000 in
set_option maxHeartbeats 4000000 in
theorem begun_any (w : World) : Calls Try.prog 5 #[] w fun e w' => e = .returned (.bool true) ∧ Below w.heap.size w w' := by
  have HR := hide (rules_any begT w)
  rw [beg_rules] at HR
  go_enter Try.func5, Try.ntmps5
  go_wp2_with fail
  refine Calls.mono HR.out ?_
  rintro e w1 ⟨⟨y, rfl, hy⟩, hb1⟩
  have HB1 := hide hb1
  obtain ⟨ao, cap, rfl⟩ := Rp.isRs_shape hy
  have HY := hide hy
  have HA := hide (callsIn_wide.1 (arities_in 3 (Nat.le_refl _) begR [] _ (.slice none 0 0) w1 hy (fs_nil w1) (by decide) (by decide) beg_ok (by decide)))
  clear HR hy hb1
  go_wp2_with fail
  refine Calls.mono HA.out ?_
  rintro e w2 ⟨hz, hb2⟩
  rw [beg_fold, if_pos rfl] at hz
  obtain ⟨rfl, N, D, hown, hM⟩ := hz
  have HB2 := hide (HB1.out.trans (hb2.mono HB1.out.size))
  have HY2 := hide (isRs_below HY.out hb2)
  obtain ⟨g, hao, hc⟩ := (Rp.isRs_cells HY2.out).2 (by decide)
  subst hao
  obtain ⟨u0, x0, hu0, hx0, a0, a1, a2, a3⟩ := hc 0 (by decide)
  obtain ⟨u1, x1, hu1, hx1, b0, b1, b2, b3⟩ := hc 1 (by decide)
  have HS0 := hide (safe_any (w := w2) (q := begR[0]) ⟨_, _, rfl, hu0, hx0⟩ (beg_few _ (by simp [begR])))
  have HS1 : Hid (∀ W, Below w2.heap.size w2 W → Calls Try.prog 7 #[.agg #[.int .i64 begR[1].1.1, .string begR[1].1.2.1, u1, x1]] W fun e w' => e = .returned (.bool (safeR begR[1])) ∧ Below W.heap.size W w') := fun W hW =>
    safe_any (w := W) (q := begR[1]) ⟨_, _, rfl, isTs_below hu1 hW, isLs_below hx1 hW⟩ (beg_few _ (by simp [begR]))
  rw [beg_safe1] at HS0
  rw [beg_safe2] at HS1
  have HD : Hid (∀ nm W, Below w2.heap.size w2 W → Calls Try.prog 11 #[.slice (some ⟨g, 0, none⟩) begR.length cap, .string nm] W fun e w' => e = .returned (.bool (defR begR nm)) ∧ Below W.heap.size W w') := fun nm W hW =>
    defined_any nm (isRs_below HY2.out hW) (by decide)
  have HOWN := hide hown
  have HM := hide hM
  have hlen : begR.length = 2 := rfl
  rw [hlen]
  obtain ⟨_, aou0, capu0, rfl⟩ := own_len hu0
  obtain ⟨_, aou1, capu1, rfl⟩ := own_len hu1
  obtain ⟨aox0, capx0, rfl⟩ := isLs_shape hx0
  obtain ⟨aox1, capx1, rfl⟩ := isLs_shape hx1
  clear hc hu0 hx0 hu1 hx1 hb2 hown hM HA HY HY2
  simp only [Nat.zero_mul, Nat.one_mul, Nat.zero_add] at a0 a1 a2 a3 b0 b1 b2 b3
  go_wp2_with fail
  refine Calls.mono HS0.out ?_
  rintro e w3 ⟨rfl, hb3⟩
  have HB3 := hide hb3
  have b0 := cell_below' b0 hb3
  have b1 := cell_below' b1 hb3
  have b2 := cell_below' b2 hb3
  have b3 := cell_below' b3 hb3
  clear a0 a1 a2 a3 hb3
  go_wp2_with fail
  refine Calls.mono (HS1.out w3 HB3.out) ?_
  rintro e w4 ⟨rfl, hb4⟩
  have HB4 := hide (HB3.out.trans (hb4.mono HB3.out.size))
  have hown4 := ownsMap_fr HOWN.out (Fr.of_below (F := fun _ => False) HB4.out) id
  obtain ⟨c, hrun, hat, hwc⟩ := hown4.lookup_int (key := .string ⟨#[113]⟩) (Maps.string_keyed Try.underlying9) Try.underlying33 Try.underlying3 (Try.zeroValue3 _) (WideMaps.keyOf_string_mk Try.underlying9 (by decide))
  have hc1 : c = 1 := by
    have h1 := HM.out.at' ⟨#[113]⟩
    have h2 := h1.symm.trans hat
    simp [widN, tx] at h2
    exact h2.symm
  subst hc1
  have hlen3 := fun ty => hown4.len Try.underlying33 ty
  rw [HM.out.size] at hlen3
  have hD4 := hide (HD.out ⟨#[112]⟩ w4 HB4.out)
  clear b0 b1 b2 b3 hb4 hat hwc
  go_wp2_with fail
  refine Calls.mono hD4.out ?_
  rintro e w5 ⟨rfl, hb5⟩
  have HB5 := hide (HB4.out.trans (hb5.mono HB4.out.size))
  have hD5 := hide (HD.out ⟨#[113]⟩ w5 HB5.out)
  have e1 : defR begR ⟨#[112]⟩ = true := by kernel_rfl
  rw [e1]
  go_wp2_with fail
  refine Calls.mono hD5.out ?_
  rintro e w6 ⟨rfl, hb6⟩
  have HB6 := hide (HB5.out.trans (hb6.mono HB5.out.size))
  have e2 : defR begR ⟨#[113]⟩ = false := by kernel_rfl
  rw [e2]
  go_wp2_with fail
  go_ret
  exact ⟨rfl, HB2.out.trans (HB6.out.mono HB2.out.size)⟩
end Go.Proofs.Ytienpejlfjhnmaa.Ck
namespace Go.Proofs.Ytienpejlfjhnmaa.Ck
open Go.RowKit
open Lx (tx)
open Vl (Tm Ts Fr)
open Sy

/-- What the law has in memory: the bools, their number, the rule so far. -/
structure Cv (w W : World) (bb nb hb rb n : Nat) (v : Value) (hT : Tm) (yb : Value) (zs : List (Sy.Lit × Value)) : Prop where
  bbx : Bx W bb 44 #[v]
  nbx : Bx W nb 3 #[.int .i64 (n : Int)]
  rbx : Bx W rb 32 #[.int .i64 1, .string ⟨#[104]⟩, .slice (some ⟨hb, 0, none⟩) 1 1, yb]
  hd : isTs W [hT] (.slice (some ⟨hb, 0, none⟩) 1 1)
  row : W.ownsRow w.heap.size 29 3 yb zs.length (cellsLz zs)
  tsz : ∀ z ∈ zs, isTs W z.1.2.2 z.2
  below : Below w.heap.size w W
theorem Cv.keep {w W W' : World} {bb nb hb rb n : Nat} {v : Value} {hT : Tm} {yb : Value} {zs : List (Sy.Lit × Value)} (h : Cv w W bb nb hb rb n v hT yb zs) (hb' : Below W.heap.size W W') : Cv w W' bb nb hb rb n v hT yb zs :=
  ⟨h.bbx.below hb', h.nbx.below hb', h.rbx.below hb', isTs_below h.hd hb', Lx.own_below h.row hb', fun z hz => isTs_below (h.tsz z hz) hb', h.below.trans (hb'.mono h.below.size)⟩

theorem one_term (w : World) (t : Tm) : isTs (w.alloc (.cells #[.int .i64 t.1, .string t.2.1, .int .i64 t.2.2] 46)) [t] (.slice (some ⟨w.heap.size, 0, none⟩) 1 1) :=
  ⟨by simp [Vl.cellsT], .inr ⟨w.heap.size, 1, _, rfl, Nat.zero_le _, heap_alloc_new _ _, Nat.le_refl _, by decide, rfl, rfl⟩⟩

/-- A row pushed at the end of a row. -/
theorem push_rows (t e size bytes : Nat) (z : Value) (ht : Try.prog.underlying t = some (.slice e)) (hi : (Try.prog.info? e).map (fun i => (i.zero, i.size, i.bytes)) = some (some z, size, bytes)) (hzs : z.cells.size = size) (hs0 : 0 < size) (hby : bytes ≤ 1000)
    {W : World} {base n : Nat} {v : Value} {xs : List Value} (h : W.ownsRow base e size v n xs) (m : Nat) (hm0 : 0 < m) (hm : m ≤ 100) (cs : List Value) (hc : cs.length = m * size) (h1 : ∀ u ∈ cs, u.oneCell' = true) (hl : n ≤ 1000000) (hbase : base ≤ W.heap.size) :
    ∃ g cap w3, (∀ ty, (Builtin.append_ #[t, t] ty #[v, .slice (some ⟨W.heap.size, 0, none⟩) m m]).run Try.prog (W.alloc (.cells cs.toArray e)) = .ok (.slice (some ⟨g, 0, none⟩) (n + m) cap) w3) ∧
      Hid (w3.ownsRow base e size (.slice (some ⟨g, 0, none⟩) (n + m) cap) (n + m) (xs ++ cs)) ∧ Hid (Fr (fun k => v.ownBlock = some k) W w3) := by
  obtain ⟨i, hi, hz, hsize, hbyt⟩ := info_parts hi
  have ha : (W.alloc (.cells cs.toArray e)).ownsRow base e size v n xs := h.alloc _
  have H := fun ty => run_append_own_at (P := Try.prog) (W.alloc (.cells cs.toArray e)) base t ty e i z size bytes ht hi hz hsize hbyt hzs hs0 v n xs ha ⟨W.heap.size, 0, none⟩ m m cs (by omega) (fun j u hj => by
    rw [Addr.add_lit, Nat.zero_add, cell_of_row _ _ j _ _ _ (heap_alloc_new _ _)]
    simpa using hj) h1 (by simp only [maxLen]; omega) (by
      have : (n + m) * bytes ≤ 1000100 * 1000 := Nat.mul_le_mul (by omega) hby
      omega) (by simp; omega)
  obtain ⟨v', w', hr, g1, g2, _, g4⟩ := H 0
  have hF : Fr (fun k => v.ownBlock = some k) W w' := ((Fr.refl (fun k => v.ownBlock = some k) W).alloc (.cells cs.toArray e)).trans (Vl.Fr.of_grown (F := fun k => v.ownBlock = some k) g2 (fun k hk => hk)) (fun _ _ e => e)
  rcases Lx.own_shape g1 with ⟨_, h0⟩ | ⟨g', cap, rfl, _⟩
  · omega
  · exact ⟨g', cap, w', fun ty => hr, g1, hF⟩

theorem cellsLz_app (a b : List (Sy.Lit × Value)) : cellsLz (a ++ b) = cellsLz a ++ cellsLz b := by simp [cellsLz]
theorem cellsLz_len (a : List (Sy.Lit × Value)) : (cellsLz a).length = a.length * 3 := by
  induction a with
  | nil => rfl
  | cons x l ih => simp only [cellsLz, List.flatMap_cons, List.length_append, List.length_cons, List.length_nil] at ih ⊢; omega

/-- Literals more at the end of the rule's body: the append, and the store. -/
theorem Cv_push {w W : World} {bb nb hb rb n : Nat} {v : Value} {hT : Tm} {yb : Value} {zs : List (Sy.Lit × Value)} (h : Cv w W bb nb hb rb n v hT yb zs) (hw : w.heap.size ≤ rb) (hz : zs.length ≤ 100) (new : List (Sy.Lit × Value)) (hn0 : 0 < new.length) (hn1 : new.length ≤ 100) (hzt : ∀ z ∈ new, isTs W z.1.2.2 z.2) :
    ∃ g cap w3, (∀ ty, (Builtin.append_ #[30, 30] ty #[yb, .slice (some ⟨W.heap.size, 0, none⟩) new.length new.length]).run Try.prog (W.alloc (.cells (cellsLz new).toArray 29)) = .ok (.slice (some ⟨g, 0, none⟩) (zs.length + new.length) cap) w3) ∧
      (w3.cell? ⟨rb, 3, none⟩ = some yb ∧ w3.frozen? ⟨rb, 3, none⟩ = false) ∧
      Hid (Cv w (w3.setCell ⟨rb, 3, none⟩ (.slice (some ⟨g, 0, none⟩) (zs.length + new.length) cap)) bb nb hb rb n v hT (.slice (some ⟨g, 0, none⟩) (zs.length + new.length) cap) (zs ++ new)) := by
  obtain ⟨g, cap, w3, hap, HO3, HF3⟩ := push_rows 30 29 3 48 _ Try.underlying30 Sy.Try.info29 rfl (by decide) (by decide) h.row new.length hn0 hn1 (cellsLz new) (cellsLz_len _) (by
    intro u hu
    simp only [cellsLz, List.mem_flatMap] at hu
    obtain ⟨z, hz, hu⟩ := hu
    rcases List.mem_cons.1 hu with rfl | hu
    · rfl
    rcases List.mem_cons.1 hu with rfl | hu
    · rfl
    rw [List.mem_singleton.1 hu]
    exact isTs_one (hzt z hz)) (by omega) h.below.size
  have hnot : ∀ {b : Nat} {T : TypeId} {cs : Array Value}, Bx W b T cs → T ≠ 29 → ¬ yb.ownBlock = some b := fun {b T cs} hb hT hk => by
    rcases h.row.2 with ⟨rfl, _⟩ | ⟨g', cap', cur, rfl, _, hg, _⟩
    · simp [Value.ownBlock] at hk
    · simp [Value.ownBlock] at hk
      subst hk
      have := hb.symm.trans hg
      simp only [Option.some.injEq, Obj.cells.injEq] at this
      exact hT this.2.1
  have hrow : ∀ j, yb.ownBlock = some j → w.heap.size ≤ j := fun j hj => (h.row.lt j hj).1
  have rb3 := h.rbx.fr HF3.out (hnot h.rbx (by decide))
  have hs : Fr (fun k => k = rb) w3 (w3.setCell ⟨rb, 3, none⟩ (.slice (some ⟨g, 0, none⟩) (zs.length + new.length) cap)) := Vl.Fr.one w3 rb 3 _
  have hne : ∀ {b : Nat} {T : TypeId} {cs : Array Value}, Bx w3 b T cs → T ≠ 32 → ¬ b = rb := fun {b T cs} hb hT e => by
    subst e
    have := hb.symm.trans rb3
    simp only [Option.some.injEq, Obj.cells.injEq] at this
    exact hT this.2.1
  have bb3 := h.bbx.fr HF3.out (hnot h.bbx (by decide))
  have nb3 := h.nbx.fr HF3.out (hnot h.nbx (by decide))
  refine ⟨g, cap, w3, hap, ⟨rb3.c 3, rb3.f 3⟩, ⟨bb3.fr hs (hne bb3 (by decide)), nb3.fr hs (hne nb3 (by decide)), rb3.set 3 _, isTs_put (isTs_grow h.hd h.row (by decide) HF3.out) rb3 (by decide) 3 _, ?_, fun y hy => ?_, ?_⟩⟩
  · rw [List.length_append, cellsLz_app]
    exact own_put HO3.out rb3 (by decide) 3 _
  · rcases List.mem_append.1 hy with hy | hy
    · exact isTs_put (isTs_grow (h.tsz y hy) h.row (by decide) HF3.out) rb3 (by decide) 3 _
    · exact isTs_put (isTs_grow (hzt y hy) h.row (by decide) HF3.out) rb3 (by decide) 3 _
  · exact (h.below.trans (HF3.out.below hrow h.below.size)).setCell (p := ⟨rb, 3, none⟩) hw _

/-- The body's literals that the bools say. -/
def bodyV (n : Nat) (L : List Bool) (k : Nat) : List Sy.Lit := (List.range k).filterMap fun i => if L.getD i false = true then some (1, ⟨#[98]⟩, [vT n (i : Int)]) else none
theorem bodyV_succ (n : Nat) (L : List Bool) (k : Nat) : bodyV n L (k + 1) = bodyV n L k ++ (if L.getD k false = true then [(1, ⟨#[98]⟩, [vT n (k : Int)])] else []) := by
  unfold bodyV
  rw [List.range_succ, List.filterMap_append]
  congr 1
  simp only [List.filterMap_cons, List.filterMap_nil]
  split <;> simp_all
theorem bodyV_len (n : Nat) (L : List Bool) (k : Nat) : (bodyV n L k).length ≤ k := by
  unfold bodyV
  have := List.length_filterMap_le (fun i => if L.getD i false = true then some ((1, ⟨#[98]⟩, [vT n (i : Int)]) : Sy.Lit) else none) (List.range k)
  simpa using this

theorem run_min4 (l n : Nat) (hn : n = min l 4) (ty : TypeId) (w : World) : (Builtin.min_ #[3, 3] ty #[.int .i64 (l : Int), .int .i64 4]).run Try.prog w = .ok (.int .i64 (n : Int)) w := by
  have e : (n : Int) = if (4 : Int) < (l : Int) then 4 else (l : Int) := by split <;> omega
  rw [e]
  rfl
end Go.Proofs.Ytienpejlfjhnmaa.Ck
namespace Go.Proofs.Ytienpejlfjhnmaa.Ck
open Go.RowKit
open Lx (tx)
open Vl (Tm Ts Fr)
open Sy

theorem head_body {W : World} {hl : Sy.Lit} {ls : List Sy.Lit} {va vb : Value} (ha : isTs W hl.2.2 va) (hb : isLs W ls vb) (hn : ls.length ≤ 1000000) :
    ∃ ao cap w3, (∀ ty, (Builtin.append_ #[30, 30] ty #[.slice (some ⟨W.heap.size, 0, none⟩) 1 1, vb]).run Try.prog (W.alloc (.cells #[.int .i64 hl.1, .string hl.2.1, va] 29)) = .ok (.slice ao (ls.length + 1) cap) w3) ∧
      Hid (isLs w3 (hl :: ls) (.slice ao (ls.length + 1) cap)) ∧ Hid (Below W.heap.size W w3) := by
  obtain ⟨zs, rfl, h2, h3⟩ := hb
  have hlm : (zs.map (·.1)).length = zs.length := List.length_map _
  rw [hlm] at hn ⊢
  have hB := Lx.below_box W (.cells #[.int .i64 hl.1, .string hl.2.1, va] 29)
  have own1 : (W.alloc (.cells #[.int .i64 hl.1, .string hl.2.1, va] 29)).ownsRow W.heap.size 29 3 (.slice (some ⟨W.heap.size, 0, none⟩) 1 1) 1 [.int .i64 hl.1, .string hl.2.1, va] :=
    World.ownsRow_lit W #[.int .i64 hl.1, .string hl.2.1, va] 1 (Nat.le_refl _) (by decide) rfl
  obtain ⟨i, hi, hz, hsize, hbyt⟩ := info_parts Sy.Try.info29
  have h2' : (W.alloc (.cells #[.int .i64 hl.1, .string hl.2.1, va] 29)).ownsRow 0 29 3 vb zs.length (cellsLz zs) := h2.alloc _
  rcases Lx.own_shape h2 with ⟨rfl, h0⟩ | ⟨g, cap, rfl, hgc, hcm, hg, _⟩
  · have hz0 : zs = [] := List.length_eq_zero_iff.1 h0
    subst hz0
    refine ⟨some ⟨W.heap.size, 0, none⟩, 1, _, fun ty => run_append_owned_none _ W.heap.size 30 ty 29 i 3 Try.underlying30 hi _ 1 _ own1, ⟨[(hl, va)], rfl, Vl.own_zero own1, fun z hz => ?_⟩, hB⟩
    rw [List.mem_singleton.1 hz]
    exact isTs_below ha hB
  · have H := fun ty => run_append_own_at (P := Try.prog) (W.alloc (.cells #[.int .i64 hl.1, .string hl.2.1, va] 29)) W.heap.size 30 ty 29 i _ 3 48 Try.underlying30 hi hz hsize hbyt rfl (by decide) _ 1 _ own1 ⟨g, 0, none⟩ zs.length cap (cellsLz zs) (cellsLz_len zs) (h2'.cells rfl) (by
      intro u hu
      simp only [cellsLz, List.mem_flatMap] at hu
      obtain ⟨z, hz, hu⟩ := hu
      rcases List.mem_cons.1 hu with rfl | hu
      · rfl
      rcases List.mem_cons.1 hu with rfl | hu
      · rfl
      rw [List.mem_singleton.1 hu]
      exact isTs_one (h3 z hz)) (by simp only [maxLen]; omega) (by
        have : (1 + zs.length) * 48 ≤ 1000001 * 48 := Nat.mul_le_mul (by omega) (Nat.le_refl _)
        omega) hB.size
    obtain ⟨v', w', hr, g1, g2, _, g4⟩ := H 0
    have hF : Fr (fun k => (Value.slice (some ⟨W.heap.size, 0, none⟩) 1 1).ownBlock = some k) W w' := ((Fr.refl _ W).alloc (.cells #[.int .i64 hl.1, .string hl.2.1, va] 29)).trans (Vl.Fr.of_grown (F := fun k => (Value.slice (some ⟨W.heap.size, 0, none⟩) 1 1).ownBlock = some k) g2 (fun k hk => hk)) (fun _ _ e => e)
    have hBw : Below W.heap.size W w' := hF.below (fun j hj => by simp [Value.ownBlock] at hj; omega) (Nat.le_refl _)
    rw [Nat.add_comm 1 zs.length] at g1
    rcases Lx.own_shape g1 with ⟨_, h0⟩ | ⟨g', cap', rfl, _⟩
    · omega
    · refine ⟨some ⟨g', 0, none⟩, cap', w', fun ty => hr, ⟨(hl, va) :: zs, rfl, ?_, fun z hz => ?_⟩, hBw⟩
      · exact Vl.own_zero g1
      · rcases List.mem_cons.1 hz with rfl | hz
        · exact isTs_below ha hBw
        · exact isTs_below (h3 z hz) hBw
end Go.Proofs.Ytienpejlfjhnmaa.Ck
namespace Go.Proofs.Ytienpejlfjhnmaa.Ck
open Go.RowKit
open Lx (tx)
open Vl (Tm Ts Fr)
open Sy

/-- What the reference asks of a term, of a literal at its place, of a rule. -/
def okT (ls : List Sy.Lit) (t : Tm) : Bool := !decide (t.1 = 1) || bindsB ls t.2.1
def okL (ls : List Sy.Lit) (k : Nat) (l : Sy.Lit) : Bool := (!decide (k = 0) && decide (l.1 = 1)) || l.2.2.all (okT ls)
def refSafe (q : Rul) : Bool := okL q.2 0 q.1 && q.2.all (okL q.2 1)
theorem refSafe_false {q : Rul} {j : Nat} (hj : j < (q.1 :: q.2).length) (h : okL q.2 j (q.1 :: q.2)[j] = false) : refSafe q = false := by
  unfold refSafe
  cases j with
  | zero =>
    have h : okL q.2 0 q.1 = false := h
    rw [h]
    rfl
  | succ j =>
    have hj' : j < q.2.length := by simpa using hj
    have h' : okL q.2 1 q.2[j] = false := by simpa [okL] using h
    have : q.2.all (okL q.2 1) = false := List.all_eq_false.2 ⟨_, List.getElem_mem hj', by simp [h']⟩
    rw [this, Bool.and_false]
theorem refSafe_true {q : Rul} (h : ∀ j (hj : j < (q.1 :: q.2).length), okL q.2 j (q.1 :: q.2)[j] = true) : refSafe q = true := by
  unfold refSafe
  have h0 : okL q.2 0 q.1 = true := h 0 (by simp)
  rw [h0, Bool.true_and]
  refine List.all_eq_true.2 fun l hl => ?_
  obtain ⟨j, hj, rfl⟩ := List.getElem_of_mem hl
  have := h (j + 1) (by simpa using hj)
  simpa [okL] using this
theorem isRul_bel {w w' : World} {q : Rul} {y : Value} (h : isRul w q y) (hb : Below w.heap.size w w') : isRul w' q y := by
  obtain ⟨va, vb, rfl, h1, h2⟩ := h
  exact ⟨va, vb, rfl, isTs_below h1 hb, isLs_below h2 hb⟩
end Go.Proofs.Ytienpejlfjhnmaa.Ck
