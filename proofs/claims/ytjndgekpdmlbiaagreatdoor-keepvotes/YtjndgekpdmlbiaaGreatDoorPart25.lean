/- The calls of the law KeepVotes: Save, Crash and Open. The walks of begun and of the law KeepNone. The walk of the law KeepVotes. -/
import Derived.Test.YtjndgekpdmlbiaaGreatDoorPart24
import Derived.Test.YtjndgekpdmlbiaaGreatDoorPart23
import Derived.Test.YtjndgekpdmlbiaaGreatDoorPart22
import Derived.Test.YtjndgekpdmlbiaaGreatDoorPart16
import Derived.Lib.SlBytesConst
namespace Go.Proofs.YtjndgekpdmlbiaaGreatDoor.Kp
open Go.RowKit Bn

theorem VI.mono {σ : St} {first : Int} {cs : List Cal} {j j' : Nat} (h : VI σ first cs j) (hj : j ≤ j') : VI σ first cs j' :=
  ⟨h.cls, h.flat, h.nil, Nat.le_trans h.few hj, Nat.le_trans h.calls hj, by have := h.last; omega, by have := h.size; omega, by have := h.esum; omega⟩
/-- The keep while votes are saved: j calls, its term and vote, so many entries; its blocks are Q. -/
def VK (U wr : World) (kb j : Nat) (th vh : Int) (n : Nat) (Q : Nat → Prop) : Prop :=
  ∃ p s H first cs σ, KS Q wr kb p U.heap.size s H first (cs.map txt) 40 6000 6001 (33000 * j) σ ∧ VI σ first cs j ∧ σ.term = th ∧ σ.vote = vh ∧ σ.ents.length = n ∧ s.room = 1048576 ∧ s.wait = [] ∧ (∀ k, Q k → U.heap.size ≤ k) ∧ Below U.heap.size U wr
theorem VK.below {U w w' : World} {kb j : Nat} {th vh : Int} {n : Nat} {Q : Nat → Prop} (h : VK U w kb j th vh n Q) (hb : Below w.heap.size w w') : VK U w' kb j th vh n Q := by
  obtain ⟨p, s, H, first, cs, σ, h1, h2, h3, h4, h5, h6, h7, h8, h9⟩ := h
  exact ⟨p, s, H, first, cs, σ, h1.below hb, h2, h3, h4, h5, h6, h7, h8, h9.trans (hb.mono h9.size)⟩
theorem KS.kept {Q F : Nat → Prop} {w w' : World} {kb p pd : Nat} {s : Dk.St} {H : Nat → Prop} {first : Int} {ds : List (List UInt8)} {N B M : Nat} {zm : Int} {σ : St} (h : KS Q w kb p pd s H first ds N B M zm σ) (hf : Dk.Fr F w w') (hd : ∀ k, Q k → ¬ F k) : KS Q w' kb p pd s H first ds N B M zm σ := by
  obtain ⟨h1, h2, ⟨h3, h3a, h3b, h3c⟩, h4, av, nv, cv, z, h5, h6, h7⟩ := h
  exact ⟨h1.kept hf (fun k hk => hd k (h3b k hk)), h2, ⟨h3, h3a, h3b, fun k hk => Nat.lt_of_lt_of_le (h3c k hk) hf.size⟩, h4, av, nv, cv, z, h5.fr hf (hd _ h3a), h6.fr hf (fun k hk => hd k hk.2.2), h7⟩
theorem VK.kept {U w w' : World} {kb j : Nat} {th vh : Int} {n : Nat} {Q F : Nat → Prop} (h : VK U w kb j th vh n Q) (hf : Dk.Fr F w w') (hd : ∀ k, Q k → ¬ F k) (hF : ∀ k, F k → U.heap.size ≤ k) : VK U w' kb j th vh n Q := by
  obtain ⟨p, s, H, first, cs, σ, h1, h2, h3, h4, h5, h6, h7, h8, h9⟩ := h
  exact ⟨p, s, H, first, cs, σ, h1.kept hf hd, h2, h3, h4, h5, h6, h7, h8, h9.trans (hf.below hF h9.size)⟩
theorem VK.mono {U w : World} {kb j j' : Nat} {th vh : Int} {n : Nat} {Q : Nat → Prop} (h : VK U w kb j th vh n Q) (hj : j ≤ j') : VK U w kb j' th vh n Q := by
  obtain ⟨p, s, H, first, cs, σ, ⟨h1, h1a, h1b, h1c, av, nv, cv, z, g1, g2, g3, g4, g5⟩, h2, h3⟩ := h
  exact ⟨p, s, H, first, cs, σ, ⟨h1, h1a, h1b, h1c, av, nv, cv, z, g1, g2, g3, g4, by omega⟩, h2.mono hj, h3⟩
theorem wtE_mul (es : List Ent) (h : ∀ e ∈ es, e.data = []) : wtE es = 64 * es.length := by
  induction es with
  | nil => rfl
  | cons e es ih =>
    rw [wtE_cons, ih fun x hx => h x (by simp [hx]), h e (by simp)]
    simp
    omega
def goodB (th t v : Int) : Bool := decide (th ≤ t) && decide (0 ≤ v) && decide (v ≤ 7)
theorem vR_good (σ : St) (t v rf : Int) (re : List Ent) (h1 : ∀ e ∈ re, e.kind = 1 ∧ 1 ≤ e.term) : σ.isGood (vR t v rf re) = goodB σ.term t v := by
  have h2 : re.all (fun e => decide (1 ≤ e.kind) && decide (e.kind ≤ 3) && decide (1 ≤ e.term)) = true := by
    rw [List.all_eq_true]
    intro e he
    obtain ⟨a, b⟩ := h1 e he
    simp [a, b]
  show ((!true || goodB σ.term t v) && re.all (fun e => decide (1 ≤ e.kind) && decide (e.kind ≤ 3) && decide (1 ≤ e.term)) && true) = _
  rw [h2]
  simp
theorem wait_none (s : Dk.St) (h : s.wait = []) : s.mass = Dk.mass s.now := by
  obtain ⟨room, last, wait⟩ := s
  dsimp only at h
  subst h
  simp [Dk.St.mass, Dk.wmass, Dk.St.now, Dk.run]
theorem sum_map_txt (cs : List Cal) : ((cs.map txt).map fun d => d.length + 28).sum = (cs.map fun c => (txt c).length + 28).sum := by rw [List.map_map]; rfl
/-- Fewer bytes are asked of the log's file. -/
theorem VI.gk {σ : St} {first : Int} {cs : List Cal} {j : Nat} (h : VI σ first cs j) (hj : j ≤ 30) {s : Dk.St} {N B M : Nat} (hG : Wl.Gk s first (cs.map txt) N B M) (hw : s.wait = []) : Wl.Gk s first (cs.map txt) 40 6000 6001 := by
  have h1 := hG.fit
  have h2 := fileB_len first h1.1 (cs.map txt) hG.small h1.2
  rw [sum_map_txt] at h2
  have h3 := h.size
  have h4 := hG.now.mass
  have h5 := h.calls
  refine ⟨hG.now, ?_, hG.small, by rw [List.length_map]; omega, by omega, h1⟩
  rw [wait_none s hw]
  omega

theorem vote_save {U wr W : World} {kb j : Nat} {th vh : Int} {n : Nat} {Q : Nat → Prop} (hV : VK U wr kb j th vh n Q) (hW : Below wr.heap.size wr W) (hU : 0 < U.heap.size) (hj : j < 30) (hT : Fr.Tab W) (t v rf : Int) (re : List Ent) (ht : I64 t) (hv : I64 v) (hre : (rf = 0 ∧ re = []) ∨ (rf = n + 1 ∧ re = [⟨rf, t, 1, []⟩] ∧ 1 ≤ t)) (y6 y7 y8 : Value) (ae : Option Addr) (le ce : Nat) (hEs : ∀ X, Dk.Fr Q W X → Es X (.slice ae le ce) re) :
    Calls Tryz.prog 13 #[.pointer (some ⟨kb, 0, none⟩), .agg #[.int .i64 t, .int .i64 v, .bool true, .int .i64 rf, .slice ae le ce, .pointer none, y6, y7, y8]] W fun e w' =>
      (goodB th t v = true ∧ e = .returned (.int .i64 0) ∧ Hid (∃ Q', VK U w' kb (j + 1) t v (n + re.length) Q' ∧ (∀ k, Q' k → Q k ∨ W.heap.size ≤ k) ∧ Dk.Fr Q W w')) ∨ (goodB th t v = false ∧ e = .returned (.int .i64 3) ∧ Hid (Below W.heap.size W w')) := by
  obtain ⟨p, s, H, first, cs, σ, hK, hI, rfl, rfl, rfl, hr, hwt, hQ, hB⟩ := hV
  have hb : Brings σ t rf re := by
    rcases hre with h | h
    · exact Or.inl h
    · exact Or.inr ⟨h.1, h.2.1⟩
  have hg := vR_good σ t v rf re (fun e he => by
    rcases hre with h | h
    · rw [h.2] at he; simp at he
    · rw [h.2.1] at he
      simp at he
      subst he
      exact ⟨rfl, h.2.2⟩)
  cases hgb : goodB σ.term t v with
  | false =>
    rw [hgb] at hg
    refine (save_bad hK hW t v rf re y6 y7 y8 ae le ce (hEs W (Dk.Fr.refl _ _)) hg).mono ?_
    rintro e w' ⟨rfl, hbw⟩
    exact Or.inr ⟨rfl, rfl, hbw⟩
  | true =>
    rw [hgb] at hg
    obtain ⟨n1, n2, n3, n4⟩ := hI.nil' t v rf re hb
    have hfl := hI.flat' (by omega) t v rf re hb ht hv
    have hrl := encR_le false (vR t v rf re) rfl n2
    have hwl := encR_le true (nextS σ t v re).whole rfl n1
    have e1 : (vR t v rf re).ents.length = re.length := rfl
    have e2 : (nextS σ t v re).whole.ents.length = σ.ents.length + re.length := n4
    have f1 := hI.few
    have f2 := hI.last
    have hz1 := esz_mul re n2
    have hz2 := esz_mul (nextS σ t v re).ents n1
    refine (save_good hK hW (fun h => by have := hQ 0 h; omega) hT (fun hne => hI.cls.one (fun e => hne (by rw [e]; rfl))) ?_ (by decide) (by decide) (by decide) (by rw [hr]; decide) (by omega) t v rf re y6 y7 y8 ae le ce hEs (hI.rok (by omega) t v rf re hb ht hv) (by show 100 + esz re + 0 ≤ _; omega) (by show (encR false (vR t v rf re)).length ≤ _; omega) (fun e he => by rw [n2 e he]; simp) (hI.after t v rf re hb) (by omega) hfl (by show 100 + esz (nextS σ t v re).ents + 0 ≤ _; omega) (by omega) (by rw [wtE_mul _ n1]; omega) hg).mono ?_
    · unfold Wl.lastL
      rw [List.length_map]
      split <;> omega
    · rintro e w' ⟨rfl, HP⟩
      obtain ⟨an, s2, H2, han, hK2, hr2, hw2, hF⟩ := HP.out
      refine Or.inl ⟨rfl, rfl, fun k => Q k ∨ (W.heap.size ≤ k ∧ k < w'.heap.size), ⟨p, s2, H2, _, _, nextS σ t v re, ?_, hI.step (by omega) t v rf re hb ht hv an han, rfl, rfl, n4, by rw [hr2, hr], hw2, fun k hk => ?_, hB.trans ((hW.mono hB.size).trans (hF.below hQ (Nat.le_trans hB.size hW.size)))⟩, fun k hk => ?_, hF⟩
      · have e3 := nextC_txt an cs (nextS σ t v re) (vR t v rf re)
        change KS _ _ _ _ _ _ _ _ (wDs an (cs.map txt) (encR an (if an then (nextS σ t v re).whole else vR t v rf re))) _ _ _ _ _ at hK2
        rw [e3] at hK2
        obtain ⟨g1, g2, g3, g4, av, nv, cv, z, g5, g6, g7, g8, g9⟩ := hK2
        exact ⟨g1, (hI.step (by omega) t v rf re hb ht hv an han).gk (by omega) g2 hw2, g3, g4, av, nv, cv, z, g5, g6, fun e => g7 e, g8, by push_cast; omega⟩
      · rcases hk with hk | hk
        · exact hQ k hk
        · have := hB.size; have := hW.size; omega
      · rcases hk with hk | hk
        · exact Or.inl hk
        · exact Or.inr hk.1

theorem vote_crash {U W : World} {kb j : Nat} {th vh : Int} {n : Nat} {Q : Nat → Prop} (hV : VK U W kb j th vh n Q) (hU : 0 < U.heap.size) (hj : j ≤ 30) (hT : Fr.Tab W) :
    Calls Tryz.prog 16 #[.pointer (some ⟨U.heap.size, 0, none⟩), .int .i64 (-1), .int .i64 0] W fun e w1 => ∃ q, e = .returned (.pointer (some ⟨q, 0, none⟩)) ∧ Hid (Calls Tryz.prog 10 #[.pointer (some ⟨q, 0, none⟩)] w1 fun e w2 => ∃ kc, e = .returned (.tuple #[.pointer (some ⟨kc, 0, none⟩), .int .i64 0]) ∧ Hid (∃ p av nv cv z es, KwB w2 kc p (.int .i64 th) (.int .i64 vh) (.int .i64 0) (.int .i64 0) (.slice none 0 0) (.slice none 0 0) (.slice av nv cv) z ∧ Es w2 (.slice av nv cv) es ∧ es.length = n ∧ (∀ e ∈ es, e.data = []) ∧ Below W.heap.size W w2)) := by
  obtain ⟨p, s, H, first, cs, σ, hK, hI, rfl, rfl, rfl, hr, hwt, hQ, hB⟩ := hV
  obtain ⟨g1, hG0, g3, g4, av, nv, cv, z, g5, g6, g7, g8, g9⟩ := hK
  have hG := hI.gk hj hG0 hwt
  have hms := hG.mass
  refine (g1.crash (by omega) (-1) 0).mono ?_
  rintro e w1 ⟨q, rfl, HP⟩
  obtain ⟨hD, hb1⟩ := HP.out
  rw [left_done s hwt] at hD
  refine ⟨q, rfl, ?_⟩
  have hfit := hG.fit
  have hnm : (⟨s.room, s.now, []⟩ : Dk.St).now = s.now := rfl
  have hs1 := hb1.size
  have hsU := hB.size
  have hfile : Wl.fileOf ⟨s.room, s.now, []⟩ Wl.nmW = Wl.fileB first (cs.map txt) := hG.now.file
  have hfl := hG.file
  refine (open_calls hI.cls hD (hT.below hb1) (fun h => ?_) ?_ ?_ ?_ ?_ ?_).mono ?_
  · rcases h with h | h
    · exact h
    · omega
  · rw [wait_none _ rfl, hnm]
    have := hG.now.mass
    omega
  · rw [hnm]; exact hG.now.nm
  · rw [hfile]; omega
  · rw [hnm]; have := hG.now.len; omega
  · exact load_now hG.now s.room hG.small (fun hne => hI.cls.one (fun e => hne (by rw [e]; rfl))) (fun e => hI.cls.zero (by simpa using e)) (by omega)
  · rintro e w2 ⟨kc, rfl, HO⟩
    obtain ⟨p2, H2, a2, n2, c2, z2, f1, f2, f3, f4, f5, f6, f7⟩ := HO.out
    refine ⟨kc, rfl, p2, a2, n2, c2, z2, σ.ents, f5, f6.es, rfl, hI.nil, hb1.trans (f7.below (fun k hk => ?_) hs1)⟩
    rcases hk with hk | hk
    · exact hk.elim
    · exact hk.1
end Go.Proofs.YtjndgekpdmlbiaaGreatDoor.Kp
namespace Go.Proofs.YtjndgekpdmlbiaaGreatDoor.Kp
open Go.RowKit Bn

def e1 : Ent := ⟨1, 3, 2, [120]⟩
def r1 : Rdy := ⟨3, 2, true, 1, [e1], none⟩
def s1 : St := ⟨3, 2, ⟨0, 0, [], []⟩, [e1]⟩
theorem r1_after : st0.after r1 = some s1 := rfl
theorem r1_ok : r1.ok := by
  refine ⟨⟨by decide, by decide⟩, ⟨by decide, by decide⟩, ⟨by decide, by decide⟩, fun e he => ?_, fun s hs => by cases hs⟩
  simp [r1] at he
  subst he
  exact ⟨⟨by decide, by decide⟩, ⟨by decide, by decide⟩, ⟨by decide, by decide⟩, by decide⟩
theorem r1_len : (encR false r1).length ≤ 100 := by decide +kernel
theorem r1_sz : rsz r1 ≤ 1000 := by decide +kernel
theorem r1_long : r1.long = false := by decide +kernel
theorem r1_good : st0.isGood r1 = true := by decide +kernel
theorem r1_rec : (Wl.recB 1 (fl true ++ encR false r1)).length ≤ 200 := by
  have h1 := Wl.recB_size 1 (fl true ++ encR false r1) (by decide) (by have := r1_len; simp [fl]; omega)
  have h2 := r1_len
  have h3 : (fl true ++ encR false r1).length ≤ 101 := by simp [fl]; omega
  omega
theorem sZ_mass : Wl.sZ.mass = 0 := by decide +kernel
theorem sZ_push (X : List UInt8) : (Wl.sZ.push (.app Wl.nmW X)).mass ≤ X.length + 100 := by
  rw [Dk.St.push_mass, sZ_mass]
  simp [Dk.Ch.mass]
theorem sR_mass (X : List UInt8) : (Wl.sR X).mass ≤ X.length + 100 := by
  simp [Wl.sR, Dk.St.mass, Dk.mass, Dk.wmass]

/-- The entry as it lies in memory. -/
theorem es_one (w : World) : Es ((w.alloc (.cells #[.int .u8 120] 5 (1, 2))).alloc (.cells #[.int .i64 1, .int .i64 3, .int .i64 2, .slice (some ⟨w.heap.size, 0, none⟩) 1 1] 65)) (.slice (some ⟨w.heap.size + 1, 0, none⟩) 1 1) [e1] := by
  have hS : Sl (w.alloc (.cells #[.int .u8 120] 5 (1, 2))) (.slice (some ⟨w.heap.size, 0, none⟩) 1 1) [120] := Dk.sl_new w #[.int .u8 120] [120] 5 (1, 2) rfl (by decide)
  have hn : ((w.alloc (.cells #[.int .u8 120] 5 (1, 2))).alloc (.cells #[.int .i64 1, .int .i64 3, .int .i64 2, .slice (some ⟨w.heap.size, 0, none⟩) 1 1] 65)).heap[w.heap.size + 1]? = some (.cells #[.int .i64 1, .int .i64 3, .int .i64 2, .slice (some ⟨w.heap.size, 0, none⟩) 1 1] 65 (0, 0)) := by
    have := heap_alloc_new (w.alloc (.cells #[.int .u8 120] 5 (1, 2))) (.cells #[.int .i64 1, .int .i64 3, .int .i64 2, .slice (some ⟨w.heap.size, 0, none⟩) 1 1] 65)
    simpa using this
  refine ⟨_, 1, rfl, by decide, by decide, fun _ => ⟨w.heap.size + 1, 0, rfl, fun j e hj => ?_⟩⟩
  match j, hj with
  | 0, hj =>
    cases hj
    refine ⟨some ⟨w.heap.size, 0, none⟩, 1, 1, ?_, ?_, ?_, ?_, hS.alloc _⟩ <;> rw [cell_of_row _ _ _ _ _ _ hn] <;> rfl

theorem fld0 (W : World) : (Instr.field 31 (.agg #[.int .i64 3, .int .i64 2]) 0).run Tryz.prog W = .ok (.int .i64 3) W := by kernel_rfl
theorem fld1 (W : World) : (Instr.field 31 (.agg #[.int .i64 3, .int .i64 2]) 1).run Tryz.prog W = .ok (.int .i64 2) W := by kernel_rfl
theorem fld2 (b c d : Value) (W : World) : (Instr.field 35 (.agg #[.int .i64 0, b, c, d]) 0).run Tryz.prog W = .ok (.int .i64 0) W := by kernel_rfl

set_option maxHeartbeats 4000000 in
set_option maxRecDepth 20000 in
theorem begun_any (w : World) (ht : Fr.Tab w) : Calls Tryz.prog 8 #[] w fun e w' => e = .returned (.bool true) ∧ Below w.heap.size w w' := by
  have hw0 : 0 < w.heap.size := cell_lt (ht 0 (by omega))
  have HN : Hid (_) := Dk.new_any 1048576 w
  rw [Wl.sZ_room] at HN
  have HT : Hid (∀ u, Below w.heap.size w u → Fr.Tab u) := fun u hb => ht.below hb
  obtain ⟨t, Ht⟩ : ∃ t, Hid (t = encR false r1) := ⟨encR false r1, (rfl : _ = encR false r1)⟩
  obtain ⟨X, HX⟩ : ∃ X, Hid (X = Wl.recB 1 (fl true ++ t)) := ⟨Wl.recB 1 (fl true ++ t), (rfl : _ = Wl.recB 1 (fl true ++ t))⟩
  have HXl : Hid (X.length ≤ 200) := by
    have := r1_rec
    rw [← Ht.out, ← HX.out] at this
    exact this
  go_enter Tryz.func8, Tryz.ntmps8
  go_wp2_with fail
  refine Calls.mono HN.out ?_
  rintro e w1 ⟨rfl, hD1, hb1⟩
  have HO : Hid (Calls Tryz.prog 10 #[.pointer (some ⟨w.heap.size, 0, none⟩)] w1 fun e w2 => ∃ kb, e = .returned (.tuple #[.pointer (some ⟨kb, 0, none⟩), .int .i64 0]) ∧ Hid (∃ p H, Wl.LX w2 p w.heap.size Wl.sZ H 0 [] ∧ (∀ k, H k → w.heap.size ≤ k) ∧ ¬ H kb ∧ w.heap.size ≤ kb ∧ KwB w2 kb p (.int .i64 0) (.int .i64 0) (.int .i64 0) (.int .i64 0) (.slice none 0 0) (.slice none 0 0) (.slice none 0 0) 0 ∧ Below w.heap.size w w2)) := by
    have hs1 := hb1.size
    refine (open_none hD1 (HT.out w1 hb1) ?_ (by rw [sZ_mass]; omega) (fun f hf => by simp [Wl.sZ, Dk.St.now, Dk.run] at hf) (by rw [Wl.sZ_file]; decide) (by decide) Wl.load_nil).mono ?_
    · rintro (hh | hh)
      · exact hh
      · omega
    · rintro e w2 ⟨kb, rfl, HP⟩
      obtain ⟨p, H, h1, h2, h3, h4, h5, h6⟩ := HP.out
      rw [Wl.sZ_open] at h1
      refine ⟨kb, rfl, p, H, h1, fun k hk => ?_, h3, by omega, h5, hb1.trans (h6.below (fun k hk => ?_) hs1)⟩
      · rcases h2 k hk with (hh | hh) | hh
        · exact hh.elim
        · exact hh.1
        · omega
      · rcases hk with hh | hh
        · exact hh.elim
        · exact hh.1
  clear hD1 hb1 HN
  go_wp2_with fail
  refine Calls.mono HO.out ?_
  rintro e w2 ⟨kb, rfl, HX2⟩
  clear HO
  have hcv := Lib.run_convert_bytes_const (P := Tryz.prog) w2 33 5 #[.int .u8 120] 1 1 Tryz.underlying33 Tryz.underlying5
  have HSV : Hid (Calls Tryz.prog 13 #[.pointer (some ⟨kb, 0, none⟩), .agg #[.int .i64 3, .int .i64 2, .bool true, .int .i64 1, .slice (some ⟨w2.heap.size + 1, 0, none⟩) 1 1, .pointer none, .slice none 0 0, .slice none 0 0, .slice none 0 0]] ((w2.alloc (.cells #[.int .u8 120] 5 (1, 2))).alloc (.cells #[.int .i64 1, .int .i64 3, .int .i64 2, .slice (some ⟨w2.heap.size, 0, none⟩) 1 1] 65)) fun e w3 => e = .returned (.int .i64 0) ∧ Hid (Calls Tryz.prog 16 #[.pointer (some ⟨w.heap.size, 0, none⟩), .int .i64 (-1), .int .i64 0] w3 fun e w5 => ∃ q, e = .returned (.pointer (some ⟨q, 0, none⟩)) ∧ Hid (Calls Tryz.prog 10 #[.pointer (some ⟨q, 0, none⟩)] w5 fun e w6 => ∃ kc, e = .returned (.tuple #[.pointer (some ⟨kc, 0, none⟩), .int .i64 0]) ∧ Hid (∃ p av nv cv z, KwB w6 kc p (.int .i64 3) (.int .i64 2) (.int .i64 0) (.int .i64 0) (.slice none 0 0) (.slice none 0 0) (.slice av nv cv) z ∧ Es w6 (.slice av nv cv) [e1] ∧ Below w.heap.size w w6)))) := by
    obtain ⟨p, H, h1, h2, h3, h4, h5, h6⟩ := HX2.out
    have hba : Below w2.heap.size w2 ((w2.alloc (.cells #[.int .u8 120] 5 (1, 2))).alloc (.cells #[.int .i64 1, .int .i64 3, .int .i64 2, .slice (some ⟨w2.heap.size, 0, none⟩) 1 1] 65)) := ((Below.refl _ _).alloc (Nat.le_refl _) _).alloc (by simp) _
    have hbb := h6.trans (hba.mono h6.size)
    have hXl := HXl.out
    have hlen := r1_len
    have hrr : (Dk.used Wl.sZ.now : Int) + (Wl.recB 1 (fl true ++ encR false r1)).length ≤ Wl.sZ.room := by
      have hu : Dk.used Wl.sZ.now = 0 := rfl
      have := r1_rec
      rw [hu]
      show ((0 : Nat) : Int) + _ ≤ (1048576 : Int)
      omega
    refine (save_first (h1.below hba) (HT.out _ hbb) (h5.below hba) h3 r1 s1 r1_after (.slice none 0 0) (.slice none 0 0) (.slice none 0 0) _ 1 1 (es_one w2) rfl rfl r1_ok (by have := r1_sz; omega) (by omega) (by decide) (fun e he => by simp [r1] at he; subst he; decide) r1_long r1_good hrr (Or.inr (by decide)) (by rw [sZ_mass]; omega) (by have h7 := sZ_push (Wl.recB 1 (fl true ++ encR false r1)); have h8 := r1_rec; omega)).mono ?_
    rintro e w3 ⟨rfl, HD⟩
    obtain ⟨H', g1, g2, g3⟩ := HD.out
    rw [← Ht.out, ← HX.out, Wl.sZ_now] at g1
    have g1' : Wl.LX w3 p w.heap.size (Wl.sR X) H' 1 [fl true ++ t] := g1
    have hb3 : Below w.heap.size w w3 := hbb.trans (g3.below (fun k hk => by
      rcases hk with hk | hk
      · exact h2 k hk
      · omega) hbb.size)
    refine ⟨rfl, ?_⟩
    refine (g1'.crash (by have := sR_mass X; omega) (-1) 0).mono ?_
    rintro e w5 ⟨q, rfl, HQ⟩
    obtain ⟨hD5, hb5⟩ := HQ.out
    refine ⟨q, rfl, ?_⟩
    have hlf : (⟨(Wl.sR X).room, Dk.leftOf (Wl.sR X) (-1) 0, []⟩ : Dk.St) = Wl.sR X := rfl
    rw [hlf] at hD5
    have hb5' : Below w.heap.size w w5 := hb3.trans (hb5.mono hb3.size)
    have hs3 := hb3.size
    have hs5 := hb5.size
    have hlen5 : (encR false ⟨3, 2, true, 1, [e1], none⟩).length ≤ 100000 := by have h9 : (encR false r1).length ≤ 100000 := by omega
                                                                                exact h9
    refine (open_one hD5 (HT.out w5 hb5') ?_ (by have := sR_mass X; omega) (fun f hf => ?_) (by rw [Wl.sR_file]; omega) (by rw [Wl.sR_now]; simp) 3 2 1 [e1] r1_ok (by decide) s1 r1_after (by decide) (fun e he => by simp at he; subst he; decide) hlen5 ?_).mono ?_
    · rintro (hh | hh)
      · exact hh
      · omega
    · rw [Wl.sR_now, List.mem_singleton] at hf
      rw [hf]
      exact (show Wl.nmW.size ≤ maxLen by decide)
    · rw [HX.out, Ht.out]
      exact Wl.load_one 1 _ (by decide) (by decide) (by simp [fl]; omega)
    · rintro e w6 ⟨kc, rfl, HP⟩
      obtain ⟨p6, av, nv, cv, z, f1, f2, f3⟩ := HP.out
      refine ⟨kc, rfl, p6, av, nv, cv, z, f1, f2, hb5'.trans (f3.below (fun k hk => ?_) hb5'.size)⟩
      rcases hk with hh | hh
      · exact hh.elim
      · omega
  clear HX2
  go_wp2_with fail
  clear hcv
  refine Calls.mono HSV.out ?_
  rintro e w3 ⟨rfl, HCR⟩
  clear HSV
  go_wp2_with fail
  refine Calls.mono HCR.out ?_
  rintro e w5 ⟨q, rfl, HOP⟩
  clear HCR
  go_wp2_with fail
  refine Calls.mono HOP.out ?_
  rintro e w6 ⟨kc, rfl, HP6⟩
  clear HOP
  obtain ⟨p6, av, nv, cv, z, f1, f2, f3⟩ := HP6.out
  have HK6 := hide f1
  have HE6 := hide f2
  have HB6 := hide f3
  have HH6 := hide (hard_any f1)
  clear f1 f2 f3 HP6
  go_wp2_with fail
  refine Calls.mono HH6.out ?_
  rintro e w7 ⟨rfl, hb7⟩
  have HB7 := hide (HB6.out.trans (hb7.mono HB6.out.size))
  have HK7 := hide (HK6.out.below hb7)
  have HE7 := hide (HE6.out.below hb7)
  have HH7 := hide (hard_any HK7.out)
  have i7 := fld0 w7
  clear hb7 HH6 HK6 HE6 HB6
  go_wp2_with fail
  refine Calls.mono HH7.out ?_
  rintro e w8 ⟨rfl, hb8⟩
  have i8 := fld1 w8
  have HB8 := hide (HB7.out.trans (hb8.mono HB7.out.size))
  have HK8 := hide (HK7.out.below hb8)
  have HE8 := hide (HE7.out.below hb8)
  have HH8 := hide (entries_any av nv cv [e1] HK8.out HE8.out (by decide) (fun e he => by simp at he; subst he; decide))
  clear hb8 HH7 HK7 HE7 HB7
  go_wp2_with fail
  refine Calls.mono HH8.out ?_
  rintro e w9 ⟨a9, c9, rfl, hb9⟩
  have HB9 := hide (HB8.out.trans (hb9.mono HB8.out.size))
  have HK9 := hide (HK8.out.below hb9)
  have HH9 := hide (snap_any HK9.out)
  clear hb9 HH8 HK8 HE8 HB8
  go_wp2_with fail
  refine Calls.mono HH9.out ?_
  rintro e w10 ⟨⟨b10, c10, d10, rfl⟩, hb10⟩
  have i10 := fld2 b10 c10 d10 w10
  have HB10 := hide (HB9.out.trans (hb10.mono HB9.out.size))
  clear hb10 HH9 HK9 HB9
  go_wp2_with fail
  go_ret
  exact ⟨rfl, HB10.out⟩
end Go.Proofs.YtjndgekpdmlbiaaGreatDoor.Kp
namespace Go.Proofs.YtjndgekpdmlbiaaGreatDoor.Kp
open Go.RowKit Bn

theorem vote_start {U : World} (ht : Fr.Tab U) :
    Calls Tryz.prog 9 #[.int .i64 1048576] U fun e w1 => e = .returned (.pointer (some ⟨U.heap.size, 0, none⟩)) ∧ Hid (Calls Tryz.prog 10 #[.pointer (some ⟨U.heap.size, 0, none⟩)] w1 fun e w2 => ∃ kb, e = .returned (.tuple #[.pointer (some ⟨kb, 0, none⟩), .int .i64 0]) ∧ Hid (∃ Q, VK U w2 kb 0 0 0 0 Q)) := by
  have hw0 : 0 < U.heap.size := cell_lt (ht 0 (by omega))
  have HN := Dk.new_any 1048576 U
  rw [Wl.sZ_room] at HN
  refine HN.mono ?_
  rintro e w1 ⟨rfl, hD1, hb1⟩
  refine ⟨rfl, ?_⟩
  have hs1 := hb1.size
  refine (open_none hD1 (ht.below hb1) ?_ (by rw [sZ_mass]; omega) (fun f hf => by simp [Wl.sZ, Dk.St.now, Dk.run] at hf) (by rw [Wl.sZ_file]; decide) (by decide) Wl.load_nil).mono ?_
  · rintro (hh | hh)
    · exact hh
    · omega
  · rintro e w2 ⟨kb, rfl, HP⟩
    obtain ⟨p, H, h1, h2, h3, h4, h5, h6⟩ := HP.out
    rw [Wl.sZ_open] at h1
    have hlt := h1.lt
    have hkl := h5.lt
    have hH : ∀ k, H k → U.heap.size ≤ k := fun k hk => by
      rcases h2 k hk with (hh | hh) | hh
      · exact hh.elim
      · exact hh.1
      · omega
    refine ⟨kb, rfl, fun k => H k ∨ k = kb, p, Wl.sZ, H, 0, [], st0, ⟨h1, ⟨Or.inl ⟨rfl, rfl⟩, by rw [sZ_mass]; omega, fun d hd => by simp at hd, by simp, by simp [Wl.fileB], by simp⟩, ⟨h3, Or.inr rfl, fun k hk => Or.inl hk, fun k hk => ?_⟩, rfl, none, 0, 0, 0, h5, Ek.nil _ _, fun _ => Int.le_refl _, Int.le_refl _, by simp⟩, VI.init, rfl, rfl, rfl, rfl, rfl, fun k hk => ?_, hb1.trans (h6.below (fun k hk => ?_) hs1)⟩
    · rcases hk with hk | hk
      · exact hlt k hk
      · omega
    · rcases hk with hk | hk
      · exact hH k hk
      · omega
    · rcases hk with hh | hh
      · exact hh.elim
      · exact hh.1

/-- The law's own memory in a round: the keep, and the last vote that was saved. -/
def VL (U wr : World) (kb hb j : Nat) (th vh : Int) (n : Nat) : Prop :=
  ∃ Q, VK U wr kb j th vh n Q ∧ ¬ Q hb ∧ U.heap.size ≤ hb ∧ wr.heap[hb]? = some (.cells #[.int .i64 th, .int .i64 vh] 31 (0, 0))

theorem VL.vk {U w : World} {kb hb j : Nat} {th vh : Int} {n : Nat} (h : VL U w kb hb j th vh n) : ∃ Q, VK U w kb j th vh n Q := by
  obtain ⟨Q, h1, _⟩ := h
  exact ⟨Q, h1⟩
theorem VL.below {U w w' : World} {kb hb j : Nat} {th vh : Int} {n : Nat} (h : VL U w kb hb j th vh n) (hb' : Below w.heap.size w w') : VL U w' kb hb j th vh n := by
  obtain ⟨Q, h1, h2, h3, h4⟩ := h
  exact ⟨Q, h1.below hb', h2, h3, (hb'.block hb (lt_of_block h4)).trans h4⟩
theorem VL.bel {U w : World} {kb hb j : Nat} {th vh : Int} {n : Nat} (h : VL U w kb hb j th vh n) : Below U.heap.size U w := by
  obtain ⟨Q, ⟨p, s, H, first, cs, σ, h1, h2, h3, h4, h5, h6, h7, h8, h9⟩, _⟩ := h
  exact h9
theorem gfld0 (a b : Int) (W : World) : (Instr.field 31 (.agg #[.int .i64 a, .int .i64 b]) 0).run Tryz.prog W = .ok (.int .i64 a) W := by kernel_rfl
theorem gfld1 (a b : Int) (W : World) : (Instr.field 31 (.agg #[.int .i64 a, .int .i64 b]) 1).run Tryz.prog W = .ok (.int .i64 b) W := by kernel_rfl
/-- Crash, Open, and what the keep then tells. -/
theorem vote_tail {U W : World} {kb hb j : Nat} {th vh : Int} {n : Nat} (hV : VL U W kb hb j th vh n) (hU : 0 < U.heap.size) (hj : j ≤ 30) (hT : Fr.Tab U) :
    Calls Tryz.prog 16 #[.pointer (some ⟨U.heap.size, 0, none⟩), .int .i64 (-1), .int .i64 0] W fun e w1 => ∃ q, e = .returned (.pointer (some ⟨q, 0, none⟩)) ∧ Hid (Calls Tryz.prog 10 #[.pointer (some ⟨q, 0, none⟩)] w1 fun e w2 => ∃ kc, e = .returned (.tuple #[.pointer (some ⟨kc, 0, none⟩), .int .i64 0]) ∧ Hid (∀ X, Below w2.heap.size w2 X → VL U X kb hb j th vh n ∧ X.cell? ⟨hb, 0, none⟩ = some (.int .i64 th) ∧ X.cell? ⟨hb, 1, none⟩ = some (.int .i64 vh) ∧ (Calls Tryz.prog 21 #[.pointer (some ⟨kc, 0, none⟩)] X fun e w3 => e = .returned (.agg #[.int .i64 th, .int .i64 vh]) ∧ Below X.heap.size X w3) ∧ (Calls Tryz.prog 22 #[.pointer (some ⟨kc, 0, none⟩)] X fun e w3 => ∃ a c, e = .returned (.slice a n c) ∧ Below X.heap.size X w3))) := by
  obtain ⟨Q, hK⟩ := hV.vk
  have hB := hV.bel
  refine (vote_crash hK hU hj (hT.below hB)).mono ?_
  rintro e w1 ⟨q, rfl, HP⟩
  refine ⟨q, rfl, HP.out.mono ?_⟩
  rintro e w2 ⟨kc, rfl, HR⟩
  obtain ⟨p, av, nv, cv, z, es, g1, g2, g3, g4, g5⟩ := HR.out
  refine ⟨kc, rfl, fun X hX => ?_⟩
  have hV2 := (hV.below g5).below hX
  obtain ⟨Q2, _, _, _, hc⟩ := hV2
  have hE := entries_any av nv cv es (g1.below hX) (g2.below hX) (by
    obtain ⟨p, s, H, first, cs, σ, h1, h2, h3, h4, h5, _⟩ := hK
    have := h2.few
    omega) (fun e he => by rw [g4 e he]; simp)
  rw [g3] at hE
  exact ⟨(hV.below g5).below hX, cell_of_row _ _ _ _ _ _ hc, cell_of_row _ _ _ _ _ _ hc, hard_any (g1.below hX), hE⟩

set_option maxHeartbeats 8000000 in
set_option maxRecDepth 4000 in
theorem votes_any (w0 : World) (ht : Fr.Tab w0) (aT aV : Option Addr) (nT cT nV cV : Nat) (T V : Nat → Int) (en : Bool)
    (hT : ∀ j, j < nT → ∃ g off, aT = some ⟨g, off, none⟩ ∧ w0.cell? ⟨g, off + j, none⟩ = some (.int .i64 (T j)) ∧ I64 (T j))
    (hV : ∀ j, j < nV → ∃ g off, aV = some ⟨g, off, none⟩ ∧ w0.cell? ⟨g, off + j, none⟩ = some (.int .i64 (V j)) ∧ I64 (V j)) :
    Calls Tryz.prog 6 #[.slice aT nT cT, .slice aV nV cV, .bool en] w0 fun e w' => e = .returned (.bool true) ∧ Below w0.heap.size w0 w' := by
  have HBG := hide (begun_any w0 ht)
  have HTT := hide ht
  have HTm := hide hT
  have HVm := hide hV
  clear ht hT hV
  go_enter Tryz.func6, Tryz.ntmps6
  go_wp2_with fail
  refine Calls.mono HBG.out ?_
  rintro e U ⟨rfl, hbU⟩
  have HBU := hide hbU
  have HTU := hide (HTT.out.below hbU)
  have HUp : Hid (0 < U.heap.size) := cell_lt (HTU.out 0 (by omega))
  clear HBG hbU HTT
  go_wp2_with fail
  refine Calls.mono (vote_start HTU.out) ?_
  rintro e w1 ⟨rfl, HO⟩
  go_wp2_with fail
  refine Calls.mono HO.out ?_
  rintro e w2 ⟨kb, rfl, HV0⟩
  clear HO
  have HL0 : Hid (VL U (w2.alloc (.cells #[.int .i64 0, .int .i64 0] 31)) kb w2.heap.size 0 0 0 0) := by
    obtain ⟨Q, hQ⟩ := HV0.out
    have hql : ∀ k, Q k → k < w2.heap.size := by
      obtain ⟨p, s, H, first, cs, σ, h1, _⟩ := hQ
      exact h1.2.2.1.2.2.2
    have hB : Below U.heap.size U w2 := by
      obtain ⟨p, s, H, first, cs, σ, h1, h2, h3, h4, h5, h6, h7, h8, h9⟩ := hQ
      exact h9
    exact ⟨Q, hQ.below ((Below.refl _ _).alloc (Nat.le_refl _) _), fun h => by have := hql _ h; omega, hB.size, heap_alloc_new _ _⟩
  clear HV0
  go_wp2_with fail
  go_loopw [12, 13] (fun nv iv wr => ∃ (j n : Nat) (th vh : Int), iv = .int .i64 j ∧ nv = .int .i64 (n + 1) ∧ j ≤ 30 ∧ n ≤ j ∧ Hid (VL U wr kb w2.heap.size j th vh n)) (fun _ iv _ => 30 - (intOf iv).toNat)
  case atStart => exact ⟨0, 0, 0, 0, rfl, rfl, by omega, by omega, HL0⟩
  case round =>
    obtain ⟨j, n, th, vh, rfl, rfl, hj, hnj, HL⟩ := hrel
    clear HL0
    have HBW : Hid (Below w0.heap.size w0 wr ∧ Below U.heap.size U wr) := by
      obtain ⟨Q, ⟨p, s, H, first, cs, σ, h1, h2, h3, h4, h5, h6, h7, h8, h9⟩, _⟩ := HL.out
      exact ⟨HBU.out.trans (h9.mono HBU.out.size), h9⟩
    by_cases hj1 : j < nT
    · by_cases hj2 : j < nV
      · by_cases hj3 : j < 30
        · obtain ⟨gT, oT, rfl, cT', iT⟩ := HTm.out j hj1
          obtain ⟨gV, oV, rfl, cV', iV⟩ := HVm.out j hj2
          have cT1 := (World.cell?_of_block (w := w0) (a := ⟨gT, oT + j, none⟩) (HBW.out.1.block gT (cell_lt cT'))).trans cT'
          have cV1 := (World.cell?_of_block (w := w0) (a := ⟨gV, oV + j, none⟩) (HBW.out.1.block gV (cell_lt cV'))).trans cV'
          have HIT := hide iT
          have HIV := hide iV
          generalize T j = t at *
          generalize V j = v at *
          have cT2 := cell_alloc cT1
          have cV2 := cell_alloc cV1
          clear cT' cV' iT iV
          have hj1I : (j : Int) < (nT : Int) := by omega
          have hj2I : (j : Int) < (nV : Int) := by omega
          have hj3I : (j : Int) < 30 := by omega
          have HX1 : Hid (Below wr.heap.size wr (wr.alloc (.cells #[.int .i64 t, .int .i64 v] 31)).drew ∧ (wr.alloc (.cells #[.int .i64 t, .int .i64 v] 31)).drew.heap[wr.heap.size]? = some (.cells #[.int .i64 t, .int .i64 v] 31 (0, 0)) ∧ wr.heap.size ≤ wr.heap.size) := ⟨((Below.refl _ wr).alloc (Nat.le_refl _) _).drew, heap_alloc_new _ _, Nat.le_refl _⟩
          go_upto_region 13 with fail
          go_cut [14] from 48 to 56 (fun v14 wc => ∃ xb, v14 = .pointer (some ⟨xb, 0, none⟩) ∧ Hid (Below wr.heap.size wr wc ∧ wc.heap[xb]? = some (.cells #[.int .i64 t, .int .i64 v] 31 (0, 0)) ∧ wr.heap.size ≤ xb))
          case first =>
            refine wp_region_noPanic ?_
            go_region_with (fail)
            all_goals
              refine NoPanic.normal ?_
              go_wp2_with fail
              go_meet
              exact ⟨wr.heap.size, rfl, HX1⟩
          case rest =>
            obtain ⟨xb, rfl, HX⟩ := hcut
            clear cT1 cV1 cT2 cV2 HX1
            have x0 : wc.cell? ⟨xb, 0, none⟩ = some (.int .i64 t) := cell_of_row _ _ _ _ _ _ HX.out.2.1
            have x1 : wc.cell? ⟨xb, 1, none⟩ = some (.int .i64 v) := cell_of_row _ _ _ _ _ _ HX.out.2.1
            have HB1 : Hid (Below wr.heap.size wr (wc.alloc (.cells #[.int .i64 t, .int .i64 v, .bool true, .int .i64 0, .slice none 0 0, .pointer none, .slice none 0 0, .slice none 0 0, .slice none 0 0] 43)) ∧ (wc.alloc (.cells #[.int .i64 t, .int .i64 v, .bool true, .int .i64 0, .slice none 0 0, .pointer none, .slice none 0 0, .slice none 0 0, .slice none 0 0] 43)).heap[xb]? = some (.cells #[.int .i64 t, .int .i64 v] 31 (0, 0)) ∧ (wc.alloc (.cells #[.int .i64 t, .int .i64 v, .bool true, .int .i64 0, .slice none 0 0, .pointer none, .slice none 0 0, .slice none 0 0, .slice none 0 0] 43)).heap[wc.heap.size]? = some (.cells #[.int .i64 t, .int .i64 v, .bool true, .int .i64 0, .slice none 0 0, .pointer none, .slice none 0 0, .slice none 0 0, .slice none 0 0] 43 (0, 0)) ∧ wr.heap.size ≤ wc.heap.size ∧ xb < wc.heap.size) := by
              have hl := lt_of_block HX.out.2.1
              refine ⟨HX.out.1.alloc HX.out.1.size _, ?_, heap_alloc_new _ _, HX.out.1.size, hl⟩
              rw [Below.heap_alloc _ _ _ (by omega)]
              exact HX.out.2.1
            go_upto_region 15 with fail
            obtain ⟨rb, hrb⟩ : ∃ rb, wc.heap.size = rb := ⟨_, rfl⟩
            rw [hrb] at HB1
            simp only [hrb]
            generalize wc.alloc (.cells #[.int .i64 t, .int .i64 v, .bool true, .int .i64 0, .slice none 0 0, .pointer none, .slice none 0 0, .slice none 0 0, .slice none 0 0] 43) = W1 at *
            clear x0 x1 hrb
            obtain ⟨Q, hQ1, hQ2, hQ3, hQ4⟩ := HL.out
            have HQ : Hid (VK U wr kb j th vh n Q ∧ ¬ Q w2.heap.size ∧ U.heap.size ≤ w2.heap.size ∧ wr.heap[w2.heap.size]? = some (.cells #[.int .i64 th, .int .i64 vh] 31 (0, 0)) ∧ ∀ k, Q k → k < wr.heap.size) := ⟨hQ1, hQ2, hQ3, hQ4, by obtain ⟨p, s, H, first, cs, σ, h1, _⟩ := hQ1; exact h1.2.2.1.2.2.2⟩
            have hB1 := (HB1.out.1.block w2.heap.size (lt_of_block hQ4)).trans hQ4
            have x0 : W1.cell? ⟨xb, 0, none⟩ = some (.int .i64 t) := cell_of_row _ _ _ _ _ _ HB1.out.2.1
            have x1 : W1.cell? ⟨xb, 1, none⟩ = some (.int .i64 v) := cell_of_row _ _ _ _ _ _ HB1.out.2.1
            have y0 : W1.cell? ⟨w2.heap.size, 0, none⟩ = some (.int .i64 th) := cell_of_row _ _ _ _ _ _ hB1
            have HXG : Hid (wr.heap.size ≤ xb) := HX.out.2.2
            clear hQ1 hQ2 hQ3 hQ4 hB1 HX
            go_cut [16] from 59 to 73 (fun v16 wc => v16 = .bool (goodB th t v) ∧ wc = W1)
            case first =>
              by_cases g1 : th ≤ t
              · by_cases g2 : 0 ≤ v
                · by_cases g3 : v ≤ 7
                  · have HG : Hid (goodB th t v = true) := by show _ = _; simp [goodB, g1, g2, g3]
                    go_wp2_with fail
                    go_meet
                    exact ⟨by rw [HG.out], rfl⟩
                  · have HG : Hid (goodB th t v = false) := by show _ = _; simp [goodB, g3]
                    go_wp2_with fail
                    go_meet
                    exact ⟨by rw [HG.out], rfl⟩
                · have HG : Hid (goodB th t v = false) := by show _ = _; simp [goodB, g2]
                  go_wp2_with fail
                  go_meet
                  exact ⟨by rw [HG.out], rfl⟩
              · have HG : Hid (goodB th t v = false) := by show _ = _; simp [goodB, g1]
                go_wp2_with fail
                go_meet
                exact ⟨by rw [HG.out], rfl⟩
            case rest =>
              obtain ⟨rfl, hw⟩ := hcut
              have hw' := hw.symm
              subst hw'
              clear y0
              obtain ⟨gb, hgb⟩ : ∃ gb, goodB th t v = gb := ⟨_, rfl⟩
              have HGB := hide hgb
              rw [hgb]
              clear hgb
              have HR0 : Hid (Below wr.heap.size wr W1 ∧ W1.heap[xb]? = some (.cells #[.int .i64 t, .int .i64 v] 31 (0, 0)) ∧ W1.heap[rb]? = some (.cells #[.int .i64 t, .int .i64 v, .bool true, .int .i64 0, .slice none 0 0, .pointer none, .slice none 0 0, .slice none 0 0, .slice none 0 0] 43 (0, 0)) ∧ wr.heap.size ≤ rb ∧ xb < rb ∧ wr.heap.size ≤ xb) := ⟨HB1.out.1, HB1.out.2.1, HB1.out.2.2.1, HB1.out.2.2.2.1, HB1.out.2.2.2.2, HXG.out⟩
              clear HB1
              have q3 : W1.cell? ⟨rb, 3, none⟩ = some (.int .i64 0) := cell_of_row _ _ _ _ _ _ HR0.out.2.2.1
              have q4 : W1.cell? ⟨rb, 4, none⟩ = some (.slice none 0 0) := cell_of_row _ _ _ _ _ _ HR0.out.2.2.1
              have qf := fun i => frozen_of_row W1 rb i _ 43 HR0.out.2.2.1
              go_upto_region 16 with fail
              go_cut [79] from 74 to 78 (fun v79 wc => ∃ b : Bool, v79 = .bool b ∧ Hid (b = true → 1 ≤ t) ∧ wc = W1)
              case first =>
                cases en with
                | false =>
                  go_wp2_with fail
                  go_meet
                  exact ⟨false, rfl, fun e => (by cases e), rfl⟩
                | true =>
                  by_cases h1t : 1 ≤ t
                  · go_wp2_with fail
                    go_meet
                    exact ⟨true, rfl, (show Hid (true = true → 1 ≤ t) from fun _ => h1t), rfl⟩
                  · go_wp2_with fail
                    go_meet
                    exact ⟨false, rfl, (show Hid (false = true → 1 ≤ t) from fun e => by cases e), rfl⟩
              case rest =>
              obtain ⟨b, rfl, HBT, hw⟩ := hcut
              have hw' := hw.symm
              subst hw'
              go_upto_if 79 with fail
              go_cut [] from 80 to 87 (fun wc => ∃ (rf : Int) (re : List Ent) (ae : Option Addr) (le ce : Nat), Hid ((rf = 0 ∧ re = []) ∨ (rf = n + 1 ∧ re = [⟨rf, t, 1, []⟩] ∧ 1 ≤ t)) ∧ Hid (Below wr.heap.size wr wc ∧ wc.heap[xb]? = some (.cells #[.int .i64 t, .int .i64 v] 31 (0, 0)) ∧ wc.heap[rb]? = some (.cells #[.int .i64 t, .int .i64 v, .bool true, .int .i64 rf, .slice ae le ce, .pointer none, .slice none 0 0, .slice none 0 0, .slice none 0 0] 43 (0, 0)) ∧ wr.heap.size ≤ rb ∧ xb < rb ∧ wr.heap.size ≤ xb) ∧ Hid (∀ (F : Nat → Prop) (X : World), (∀ k, F k → k < wr.heap.size) → Dk.Fr F wc X → Es X (.slice ae le ce) re))
              case first =>
                have HNO : Hid (∃ (rf : Int) (re : List Ent) (ae : Option Addr) (le ce : Nat), Hid ((rf = 0 ∧ re = []) ∨ (rf = n + 1 ∧ re = [⟨rf, t, 1, []⟩] ∧ 1 ≤ t)) ∧ Hid (Below wr.heap.size wr W1 ∧ W1.heap[xb]? = some (.cells #[.int .i64 t, .int .i64 v] 31 (0, 0)) ∧ W1.heap[rb]? = some (.cells #[.int .i64 t, .int .i64 v, .bool true, .int .i64 rf, .slice ae le ce, .pointer none, .slice none 0 0, .slice none 0 0, .slice none 0 0] 43 (0, 0)) ∧ wr.heap.size ≤ rb ∧ xb < rb ∧ wr.heap.size ≤ xb) ∧ Hid (∀ (F : Nat → Prop) (X : World), (∀ k, F k → k < wr.heap.size) → Dk.Fr F W1 X → Es X (.slice ae le ce) re)) :=
                  ⟨0, [], none, 0, 0, Or.inl ⟨rfl, rfl⟩, HR0, fun F X _ _ => ⟨none, 0, rfl, Nat.le_refl _, by simp [maxLen], fun h => by simp at h⟩⟩
                cases b with
                | false =>
                  go_wp2_with fail
                  go_meet
                  exact HNO.out
                | true =>
                  have h1t : 1 ≤ t := HBT.out rfl
                  have HYES : Hid (∀ W3, W3 = ((W1.setCell ⟨rb, 3, none⟩ (.int .i64 (n + 1))).alloc (.cells #[.int .i64 (n + 1), .int .i64 t, .int .i64 1, .slice none 0 0] 65)).setCell ⟨rb, 4, none⟩ (.slice (some ⟨W1.heap.size, 0, none⟩) 1 1) → ∃ (rf : Int) (re : List Ent) (ae : Option Addr) (le ce : Nat), Hid ((rf = 0 ∧ re = []) ∨ (rf = n + 1 ∧ re = [⟨rf, t, 1, []⟩] ∧ 1 ≤ t)) ∧ Hid (Below wr.heap.size wr W3 ∧ W3.heap[xb]? = some (.cells #[.int .i64 t, .int .i64 v] 31 (0, 0)) ∧ W3.heap[rb]? = some (.cells #[.int .i64 t, .int .i64 v, .bool true, .int .i64 rf, .slice ae le ce, .pointer none, .slice none 0 0, .slice none 0 0, .slice none 0 0] 43 (0, 0)) ∧ wr.heap.size ≤ rb ∧ xb < rb ∧ wr.heap.size ≤ xb) ∧ Hid (∀ (F : Nat → Prop) (X : World), (∀ k, F k → k < wr.heap.size) → Dk.Fr F W3 X → Es X (.slice ae le ce) re)) := fun W3 hW3 => by
                    obtain ⟨z1, z2, z3, z4, z5, z6⟩ := HR0.out
                    have hrl := lt_of_block z3
                    have hsz := z1.size
                    obtain ⟨Wa, hWa⟩ : ∃ Wa, Wa = W1.setCell ⟨rb, 3, none⟩ (.int .i64 (n + 1)) := ⟨_, rfl⟩
                    have hsa : Wa.heap.size = W1.heap.size := by rw [hWa]; simp [World.setCell]
                    have fa : Dk.Fr (fun k => k = rb) W1 Wa := by rw [hWa]; exact Dk.Fr.one W1 rb 3 _
                    have ra := heap_setCell_same W1 rb 3 _ 43 (.int .i64 (n + 1)) z3
                    rw [← hWa] at ra hW3
                    obtain ⟨Wb, hWb⟩ : ∃ Wb, Wb = Wa.alloc (.cells #[.int .i64 (n + 1), .int .i64 t, .int .i64 1, .slice none 0 0] 65) := ⟨_, rfl⟩
                    have bb : Below Wa.heap.size Wa Wb := by rw [hWb]; exact (Below.refl _ _).alloc (Nat.le_refl _) _
                    have eb : Wb.heap[W1.heap.size]? = some (.cells #[.int .i64 (n + 1), .int .i64 t, .int .i64 1, .slice none 0 0] 65 (0, 0)) := by rw [hWb, ← hsa]; exact heap_alloc_new _ _
                    rw [← hWb] at hW3
                    have rbb := (bb.block rb (lt_of_block ra)).trans ra
                    have r3 := heap_setCell_same Wb rb 4 _ 43 (.slice (some ⟨W1.heap.size, 0, none⟩) 1 1) rbb
                    have f3 : Dk.Fr (fun k => k = rb) Wb W3 := by rw [hW3]; exact Dk.Fr.one Wb rb 4 _
                    rw [← hW3] at r3
                    have fall : Dk.Fr (fun k => k = rb) W1 W3 := (fa.trans (Dk.Fr.of_below (F := fun k => k = rb) bb) (fun _ _ h => h)).trans f3 (fun _ _ h => h)
                    have e3 : W3.heap[W1.heap.size]? = some (.cells #[.int .i64 (n + 1), .int .i64 t, .int .i64 1, .slice none 0 0] 65 (0, 0)) := (f3.block _ (lt_of_block eb) (fun e => by omega)).trans eb
                    refine ⟨n + 1, [⟨n + 1, t, 1, []⟩], some ⟨W1.heap.size, 0, none⟩, 1, 1, Or.inr ⟨rfl, rfl, h1t⟩, ⟨z1.trans (fall.below (fun k hk => by omega) hsz), (fall.block xb (lt_of_block z2) (fun e => by omega)).trans z2, r3, z4, z5, z6⟩, fun F X hF hX => ?_⟩
                    have eX : X.heap[W1.heap.size]? = some (.cells #[.int .i64 (n + 1), .int .i64 t, .int .i64 1, .slice none 0 0] 65 (0, 0)) := (hX.block _ (lt_of_block e3) (fun h => by have := hF _ h; omega)).trans e3
                    refine ⟨_, 1, rfl, Nat.le_refl 1, by simp [maxLen], fun _ => ⟨W1.heap.size, 0, rfl, fun i e hi => ?_⟩⟩
                    match i, hi with
                    | 0, hi =>
                      cases hi
                      refine ⟨none, 0, 0, ?_, ?_, ?_, ?_, Sl.nil _⟩ <;> rw [cell_of_row _ _ _ _ _ _ eX] <;> rfl
                  have hra := heap_setCell_same W1 rb 3 _ 43 (.int .i64 (n + 1)) HR0.out.2.2.1
                  have q4a := cell_alloc (cell_of_row _ rb 4 _ 43 (0, 0) hra)
                  have qfa : ∀ o, ((W1.setCell ⟨rb, 3, none⟩ (.int .i64 (n + 1))).alloc o).frozen? ⟨rb, 4, none⟩ = false := fun o => frozen_of_row _ rb 4 _ 43 ((((Below.refl _ _).alloc (Nat.le_refl _) o).block rb (lt_of_block hra)).trans hra)
                  clear hra
                  go_wp2_with fail
                  go_meet
                  exact HYES.out _ rfl
              case rest =>
                obtain ⟨rf, re, ae, le, ce, HRE, HR, HEs⟩ := hcut
                clear q3 q4 qf HR0 x0 x1 HBT
                generalize wc = w5 at *
                obtain ⟨r0, r1, r2, r3, r4, r5, r6, r7, r8⟩ := nine HR.out.2.2.1
                have hsv := vote_save HQ.out.1 HR.out.1 HUp.out hj3 (HTU.out.below (HBW.out.2.trans (HR.out.1.mono HBW.out.2.size))) t v rf re HIT.out HIV.out HRE.out (.slice none 0 0) (.slice none 0 0) (.slice none 0 0) ae le ce (fun X hX => HEs.out Q X HQ.out.2.2.2.2 hX)
                rw [HGB.out] at hsv
                have HSV := hide hsv
                clear hsv
                have hn31 : (n : Int) ≤ 30 := by omega
                go_wp2_with fail
                refine Calls.mono HSV.out ?_
                clear HSV r0 r1 r2 r3 r4 r5 r6 r7 r8 HEs
                rintro e w6 (⟨rfl, rfl, HP⟩ | ⟨rfl, rfl, HP⟩)
                · have HG6 : Hid (∃ Q', VK U w6 kb (j + 1) t v (n + re.length) Q' ∧ ¬ Q' w2.heap.size ∧ w6.heap[w2.heap.size]? = some (.cells #[.int .i64 th, .int .i64 vh] 31 (0, 0)) ∧ w6.heap[xb]? = some (.cells #[.int .i64 t, .int .i64 v] 31 (0, 0)) ∧ w6.heap[rb]? = some (.cells #[.int .i64 t, .int .i64 v, .bool true, .int .i64 rf, .slice ae le ce, .pointer none, .slice none 0 0, .slice none 0 0, .slice none 0 0] 43 (0, 0))) := by
                    obtain ⟨Q', hV', hQ', hF⟩ := HP.out
                    have hl5 := (HR.out.1.block w2.heap.size (lt_of_block HQ.out.2.2.2.1)).trans HQ.out.2.2.2.1
                    have hlt := lt_of_block HQ.out.2.2.2.1
                    have hsz := HR.out.1.size
                    refine ⟨Q', hV', fun h => ?_, (hF.block _ (lt_of_block hl5) HQ.out.2.1).trans hl5, (hF.block _ (lt_of_block HR.out.2.1) (fun h => ?_)).trans HR.out.2.1, (hF.block _ (lt_of_block HR.out.2.2.1) (fun h => ?_)).trans HR.out.2.2.1⟩
                    · rcases hQ' _ h with h1 | h1
                      · exact HQ.out.2.1 h1
                      · omega
                    · have := HQ.out.2.2.2.2 _ h; have := HR.out.2.2.2.2.2; omega
                    · have := HQ.out.2.2.2.2 _ h; have := HR.out.2.2.2.1; omega
                  clear HP
                  have HV7 : Hid (∀ W7, W7 = (w6.setCell ⟨w2.heap.size, 0, none⟩ (.int .i64 t)).setCell ⟨w2.heap.size, 1, none⟩ (.int .i64 v) → VL U W7 kb w2.heap.size (j + 1) t v (n + re.length) ∧ W7.cell? ⟨rb, 3, none⟩ = some (.int .i64 rf)) := fun W7 hW7 => by
                    obtain ⟨Q', hV', hq, hc, hx, hr⟩ := HG6.out
                    have f1 := fr_set (Dk.Fr.refl (fun k => k = w2.heap.size) w6) (D := w2.heap.size) (i := 0) (x := .int .i64 t) rfl
                    have f2 := fr_set f1 (D := w2.heap.size) (i := 1) (x := .int .i64 v) rfl
                    rw [← hW7] at f2
                    have h1 := heap_setCell_same w6 w2.heap.size 0 _ 31 (.int .i64 t) hc
                    have h2 := heap_setCell_same _ w2.heap.size 1 _ 31 (.int .i64 v) h1
                    rw [← hW7] at h2
                    have hlt := lt_of_block HQ.out.2.2.2.1
                    have hne : rb ≠ w2.heap.size := fun e => by have := HR.out.2.2.2.1; omega
                    exact ⟨⟨Q', hV'.kept f2 (fun k hk e => hq (by rw [← e]; exact hk)) (fun k e => by rw [e]; exact HQ.out.2.2.1), hq, HQ.out.2.2.1, h2⟩, cell_of_row _ _ _ _ _ _ ((f2.block rb (lt_of_block hr) hne).trans hr)⟩
                  have x0 : w6.cell? ⟨xb, 0, none⟩ = some (.int .i64 t) := by obtain ⟨Q', hV', hq, hc, hx, hr⟩ := HG6.out; exact cell_of_row _ _ _ _ _ _ hx
                  have x1 : w6.cell? ⟨xb, 1, none⟩ = some (.int .i64 v) := by obtain ⟨Q', hV', hq, hc, hx, hr⟩ := HG6.out; exact cell_of_row _ _ _ _ _ _ hx
                  have y0 : w6.cell? ⟨w2.heap.size, 0, none⟩ = some (.int .i64 th) := by obtain ⟨Q', hV', hq, hc, hx, hr⟩ := HG6.out; exact cell_of_row _ _ _ _ _ _ hc
                  have y1 : w6.cell? ⟨w2.heap.size, 1, none⟩ = some (.int .i64 vh) := by obtain ⟨Q', hV', hq, hc, hx, hr⟩ := HG6.out; exact cell_of_row _ _ _ _ _ _ hc
                  have yf : ∀ i, w6.frozen? ⟨w2.heap.size, i, none⟩ = false := by obtain ⟨Q', hV', hq, hc, hx, hr⟩ := HG6.out; exact fun i => frozen_of_row _ _ _ _ _ hc
                  go_upto_region 24 with fail
                  obtain ⟨W7, hW7⟩ : ∃ W7, W7 = (w6.setCell ⟨w2.heap.size, 0, none⟩ (.int .i64 t)).setCell ⟨w2.heap.size, 1, none⟩ (.int .i64 v) := ⟨_, rfl⟩
                  have h77 := HV7.out W7 hW7
                  have HV8 := hide h77.1
                  have r3 := h77.2
                  rw [← hW7]
                  clear h77 HV7 x0 x1 y0 y1 yf hW7 HG6
                  go_upto_if 99 with fail
                  go_cut [12] from 99 to 101 (fun v12 wc => v12 = .int .i64 ((n + re.length : Nat) + 1) ∧ wc = W7)
                  case first =>
                    rcases HRE.out with ⟨e1, e2⟩ | ⟨e1, e2, e3⟩
                    · have e1' : ¬ (0 : Int) < rf := by omega
                      have E2 := hide e2
                      clear e1 e2
                      go_wp2_with fail
                      go_meet
                      exact ⟨by rw [E2.out]; simp, rfl⟩
                    · have e1' : (0 : Int) < rf := by omega
                      have E2 := hide e2
                      clear e1 e2
                      go_wp2_with fail
                      go_meet
                      exact ⟨by rw [E2.out]; simp, rfl⟩
                  case rest =>
                    obtain ⟨rfl, hw⟩ := hcut
                    have hw' := hw.symm
                    subst hw'
                    have hre1 : re.length ≤ 1 := by
                      rcases HRE.out with ⟨e1, e2⟩ | ⟨e1, e2, e3⟩
                      · rw [e2]; simp
                      · rw [e2]; simp
                    obtain ⟨n2, hn2⟩ : ∃ n2, n + re.length = n2 := ⟨_, rfl⟩
                    rw [hn2] at HV8 ⊢
                    have hn2b : n2 ≤ j + 1 := by omega
                    have hn2I : (n2 : Int) ≤ 31 := by omega
                    have HT1 := hide (vote_tail HV8.out HUp.out (by omega) HTU.out)
                    clear HV8 r3 hre1 hn2 HRE HR
                    go_wp2_with fail
                    refine Calls.mono HT1.out ?_
                    rintro e w8 ⟨q, rfl, HT2⟩
                    clear HT1
                    go_wp2_with fail
                    refine Calls.mono HT2.out ?_
                    rintro e w9 ⟨kc, rfl, HT3⟩
                    clear HT2
                    have HC1 : Hid (Calls Tryz.prog 21 #[.pointer (some ⟨kc, 0, none⟩)] w9.drew fun e w3 => e = .returned (.agg #[.int .i64 t, .int .i64 v]) ∧ (w3.cell? ⟨w2.heap.size, 0, none⟩ = some (.int .i64 t) ∧ w3.cell? ⟨w2.heap.size, 1, none⟩ = some (.int .i64 v)) ∧ Hid (Calls Tryz.prog 21 #[.pointer (some ⟨kc, 0, none⟩)] w3 fun e w4 => e = .returned (.agg #[.int .i64 t, .int .i64 v]) ∧ (w4.cell? ⟨w2.heap.size, 0, none⟩ = some (.int .i64 t) ∧ w4.cell? ⟨w2.heap.size, 1, none⟩ = some (.int .i64 v)) ∧ Hid (Calls Tryz.prog 22 #[.pointer (some ⟨kc, 0, none⟩)] w4 fun e w5 => ∃ a c, e = .returned (.slice a n2 c) ∧ (w5.cell? ⟨w2.heap.size, 0, none⟩ = some (.int .i64 t) ∧ w5.cell? ⟨w2.heap.size, 1, none⟩ = some (.int .i64 v)) ∧ Hid (Below w9.heap.size w9 w5)))) := by
                      have B1 : Below w9.heap.size w9 w9.drew := (Below.refl _ _).drew
                      refine (HT3.out w9.drew B1).2.2.2.1.mono ?_
                      rintro e w3 ⟨rfl, hb3⟩
                      have b3 := B1.trans (hb3.mono B1.size)
                      obtain ⟨_, c30, c31, k3, _⟩ := HT3.out w3 b3
                      refine ⟨rfl, ⟨c30, c31⟩, k3.mono ?_⟩
                      rintro e w4 ⟨rfl, hb4⟩
                      have b4 := b3.trans (hb4.mono b3.size)
                      obtain ⟨_, c40, c41, _, k4⟩ := HT3.out w4 b4
                      refine ⟨rfl, ⟨c40, c41⟩, k4.mono ?_⟩
                      rintro e w5 ⟨a5, c5, rfl, hb5⟩
                      have b5 := b4.trans (hb5.mono b4.size)
                      obtain ⟨_, c50, c51, _, _⟩ := HT3.out w5 b5
                      exact ⟨a5, c5, rfl, ⟨c50, c51⟩, b5⟩
                    have HVE : Hid (∀ X, Below w9.heap.size w9 X → VL U X kb w2.heap.size (j + 1) t v n2) := fun X hX => (HT3.out X hX).1
                    have d0 : w9.cell? ⟨w2.heap.size, 0, none⟩ = some (.int .i64 t) ∧ w9.cell? ⟨w2.heap.size, 1, none⟩ = some (.int .i64 v) := ⟨(HT3.out w9 (Below.refl _ _)).2.1, (HT3.out w9 (Below.refl _ _)).2.2.1⟩
                    have fi0 : ∀ W, (Instr.field 31 (.agg #[.int .i64 t, .int .i64 v]) 0).run Tryz.prog W = .ok (.int .i64 t) W := gfld0 t v
                    have fi1 : ∀ W, (Instr.field 31 (.agg #[.int .i64 t, .int .i64 v]) 1).run Tryz.prog W = .ok (.int .i64 v) W := gfld1 t v
                    clear HT3
                    have hwn : IntKind.i64.wrap (n2 : Int) = (n2 : Int) := by rw [IntKind.wrap_i64]; omega
                    go_upto_region 27 with fail
                    go_region_held (fun u => u.cell? ⟨w2.heap.size, 0, none⟩ = some (.int .i64 t) ∧ u.cell? ⟨w2.heap.size, 1, none⟩ = some (.int .i64 v))
                      (first | exact d0 | exact d3 | exact d4 | exact d5)
                      (first
                        | (go_at_call 22; refine Calls.mono HC3.out ?_; rintro e w5 ⟨a5, c5, rfl, d5, HB5⟩)
                        | (go_at_call 21; first | (have mm := HC2; refine Calls.mono HC2.out ?_; rintro e w4 ⟨rfl, d4, HC3⟩) | (refine Calls.mono HC1.out ?_; rintro e w3 ⟨rfl, d3, HC2⟩)))
                    go_wp2_with fail
                    go_roundw
                    case rel => exact ⟨j + 1, n2, t, v, rfl, rfl, by omega, by omega, HVE.out _ HB5.out⟩
                    case measure => simp only [intOf]; omega
                · have HV8 : Hid (VL U w6 kb w2.heap.size (j + 1) th vh n) := by
                    refine (VL.below (w := wr) ?_ (HR.out.1.trans (HP.out.mono HR.out.1.size)))
                    exact ⟨Q, HQ.out.1.mono (Nat.le_succ _), HQ.out.2.1, HQ.out.2.2.1, HQ.out.2.2.2.1⟩
                  have HT1 := hide (vote_tail HV8.out HUp.out (by omega) HTU.out)
                  clear HV8 HRE HR HP
                  go_wp2_with fail
                  refine Calls.mono HT1.out ?_
                  rintro e w8 ⟨q, rfl, HT2⟩
                  clear HT1
                  go_wp2_with fail
                  refine Calls.mono HT2.out ?_
                  rintro e w9 ⟨kc, rfl, HT3⟩
                  clear HT2
                  have HC1 : Hid (Calls Tryz.prog 21 #[.pointer (some ⟨kc, 0, none⟩)] w9.drew fun e w3 => e = .returned (.agg #[.int .i64 th, .int .i64 vh]) ∧ (w3.cell? ⟨w2.heap.size, 0, none⟩ = some (.int .i64 th) ∧ w3.cell? ⟨w2.heap.size, 1, none⟩ = some (.int .i64 vh)) ∧ Hid (Calls Tryz.prog 21 #[.pointer (some ⟨kc, 0, none⟩)] w3 fun e w4 => e = .returned (.agg #[.int .i64 th, .int .i64 vh]) ∧ (w4.cell? ⟨w2.heap.size, 0, none⟩ = some (.int .i64 th) ∧ w4.cell? ⟨w2.heap.size, 1, none⟩ = some (.int .i64 vh)) ∧ Hid (Calls Tryz.prog 22 #[.pointer (some ⟨kc, 0, none⟩)] w4 fun e w5 => ∃ a c, e = .returned (.slice a n c) ∧ (w5.cell? ⟨w2.heap.size, 0, none⟩ = some (.int .i64 th) ∧ w5.cell? ⟨w2.heap.size, 1, none⟩ = some (.int .i64 vh)) ∧ Hid (Below w9.heap.size w9 w5)))) := by
                    have B1 : Below w9.heap.size w9 w9.drew := (Below.refl _ _).drew
                    refine (HT3.out w9.drew B1).2.2.2.1.mono ?_
                    rintro e w3 ⟨rfl, hb3⟩
                    have b3 := B1.trans (hb3.mono B1.size)
                    obtain ⟨_, c30, c31, k3, _⟩ := HT3.out w3 b3
                    refine ⟨rfl, ⟨c30, c31⟩, k3.mono ?_⟩
                    rintro e w4 ⟨rfl, hb4⟩
                    have b4 := b3.trans (hb4.mono b3.size)
                    obtain ⟨_, c40, c41, _, k4⟩ := HT3.out w4 b4
                    refine ⟨rfl, ⟨c40, c41⟩, k4.mono ?_⟩
                    rintro e w5 ⟨a5, c5, rfl, hb5⟩
                    have b5 := b4.trans (hb5.mono b4.size)
                    obtain ⟨_, c50, c51, _, _⟩ := HT3.out w5 b5
                    exact ⟨a5, c5, rfl, ⟨c50, c51⟩, b5⟩
                  have HVE : Hid (∀ X, Below w9.heap.size w9 X → VL U X kb w2.heap.size (j + 1) th vh n) := fun X hX => (HT3.out X hX).1
                  have d0 : w9.cell? ⟨w2.heap.size, 0, none⟩ = some (.int .i64 th) ∧ w9.cell? ⟨w2.heap.size, 1, none⟩ = some (.int .i64 vh) := ⟨(HT3.out w9 (Below.refl _ _)).2.1, (HT3.out w9 (Below.refl _ _)).2.2.1⟩
                  have fi0 : ∀ W, (Instr.field 31 (.agg #[.int .i64 th, .int .i64 vh]) 0).run Tryz.prog W = .ok (.int .i64 th) W := gfld0 th vh
                  have fi1 : ∀ W, (Instr.field 31 (.agg #[.int .i64 th, .int .i64 vh]) 1).run Tryz.prog W = .ok (.int .i64 vh) W := gfld1 th vh
                  clear HT3
                  have hwn : IntKind.i64.wrap (n : Int) = (n : Int) := by rw [IntKind.wrap_i64]; omega
                  go_upto_region 27 with fail
                  go_region_held (fun u => u.cell? ⟨w2.heap.size, 0, none⟩ = some (.int .i64 th) ∧ u.cell? ⟨w2.heap.size, 1, none⟩ = some (.int .i64 vh))
                    (first | exact d0 | exact d3 | exact d4 | exact d5)
                    (first
                      | (go_at_call 22; refine Calls.mono HC3.out ?_; rintro e w5 ⟨a5, c5, rfl, d5, HB5⟩)
                      | (go_at_call 21; first | (have mm := HC2; refine Calls.mono HC2.out ?_; rintro e w4 ⟨rfl, d4, HC3⟩) | (refine Calls.mono HC1.out ?_; rintro e w3 ⟨rfl, d3, HC2⟩)))
                  go_wp2_with fail
                  go_roundw
                  case rel => exact ⟨j + 1, n, th, vh, rfl, rfl, by omega, by omega, HVE.out _ HB5.out⟩
                  case measure => simp only [intOf]; omega
        · have hj3I : ¬ (j : Int) < 30 := by omega
          have hj1I : (j : Int) < (nT : Int) := by omega
          have hj2I : (j : Int) < (nV : Int) := by omega
          go_wp2_with fail
          go_ret
          exact ⟨rfl, HBW.out.1⟩
      · have hj2I : ¬ (j : Int) < (nV : Int) := by omega
        have hj1I : (j : Int) < (nT : Int) := by omega
        go_wp2_with fail
        go_ret
        exact ⟨rfl, HBW.out.1⟩
    · have hj1I : ¬ (j : Int) < (nT : Int) := by omega
      go_wp2_with fail
      go_ret
      exact ⟨rfl, HBW.out.1⟩
end Go.Proofs.YtjndgekpdmlbiaaGreatDoor.Kp
