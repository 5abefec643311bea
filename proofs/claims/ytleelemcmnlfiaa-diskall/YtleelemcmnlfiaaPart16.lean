/- The disk and the document's side by side: what each call of the law leaves of both. Both disks side by side, with a block of the law's own beside them. The walks of begun and of the law DiskNone. -/
import Derived.Test.YtleelemcmnlfiaaPart14
import Derived.Test.YtleelemcmnlfiaaPart15
import Derived.Test.YtleelemcmnlfiaaPart06
import Derived.Lib.SlBytesConst
namespace Go.Proofs.Ytleelemcmnlfiaa
open Go.RowKit

/-- A disk at p in the state s, the document's at q in the state r, apart from each other and from what was there. -/
def LR (w0 w : World) (p q : Nat) (s r : St) : Prop := ∃ F R, Dk w p s F ∧ RD w q r R ∧ (∀ k, F k → ¬ R k) ∧ ¬ F q ∧ (∀ k, F k → w0.heap.size ≤ k) ∧ w0.heap.size ≤ q ∧ Below w0.heap.size w0 w
theorem ext_ge {B : Nat} {F : Nat → Prop} {w w' : World} (h : ∀ k, F k → B ≤ k) (hs : B ≤ w.heap.size) : ∀ k, ext F w w' k → B ≤ k := fun k hk => by
  rcases hk with hk | hk
  · exact h k hk
  · omega
theorem RD.lt {w : World} {q : Nat} {s : St} {R : Nat → Prop} (h : RD w q s R) : ∀ k, R k → k < w.heap.size := by
  obtain ⟨_, _, _, _, _, _, h⟩ := h
  exact h.fl.lt
theorem RD.plt {w : World} {q : Nat} {s : St} {R : Nat → Prop} (h : RD w q s R) : q < w.heap.size := by
  obtain ⟨_, _, _, _, _, _, h⟩ := h
  exact h.plt
theorem LR.below {w0 w w' : World} {p q : Nat} {s r : St} (h : LR w0 w p q s r) (hb : Below w.heap.size w w') : LR w0 w' p q s r := by
  obtain ⟨F, R, h1, h2, h3, h4, h5, h6, h7⟩ := h
  exact ⟨F, R, h1.below hb, h2.below hb, h3, h4, h5, h6, h7.trans (hb.mono h7.size)⟩
theorem LR.disk {w0 w : World} {p q : Nat} {s r s' : St} {f : FuncId} {args : Array Value} {v : Value} (h : LR w0 w p q s r) (hc : ∀ F, Dk w p s F → Calls Try.prog f args w fun e w' => e = .returned v ∧ Hid (DLeft w w' p s' F)) :
    Calls Try.prog f args w fun e w' => e = .returned v ∧ Hid (LR w0 w' p q s' r) ∧ Hid (Below w0.heap.size w0 w') := by
  obtain ⟨F, R, h1, h2, h3, h4, h5, h6, h7⟩ := h
  refine (hc F h1).mono ?_
  rintro e w' ⟨he, HL⟩
  obtain ⟨hD, hf⟩ := HL.out
  have hb : Below w0.heap.size w0 w' := h7.trans (hf.below h5 h7.size)
  refine ⟨he, ⟨ext F w w', R, hD, h2.kept hf (fun k hk hF => h3 k hF hk) h4, fun k hk hR => ?_, fun hk => ?_, ext_ge h5 h7.size, h6, hb⟩, hb⟩
  · rcases hk with hk | hk
    · exact h3 k hk hR
    · have := h2.lt k hR
      omega
  · rcases hk with hk | hk
    · exact h4 hk
    · have := h2.plt
      omega
theorem LR.ref {w0 w : World} {p q : Nat} {s r r' : St} {f : FuncId} {args : Array Value} {v : Value} (h : LR w0 w p q s r) (hc : ∀ R, RD w q r R → Calls Try.prog f args w fun e w' => e = .returned v ∧ Hid (RLeft w w' q r' R)) :
    Calls Try.prog f args w fun e w' => e = .returned v ∧ Hid (LR w0 w' p q s r') ∧ Hid (Below w0.heap.size w0 w') := by
  obtain ⟨F, R, h1, h2, h3, h4, h5, h6, h7⟩ := h
  refine (hc R h2).mono ?_
  rintro e w' ⟨he, HL⟩
  obtain ⟨hD, hf⟩ := HL.out
  have hb : Below w0.heap.size w0 w' := h7.trans (hf.below (fun k hk => by rw [hk]; exact h6) h7.size)
  refine ⟨he, ⟨F, ext R w w', h1.kept hf (fun k hk e => h4 (e ▸ hk)), hD, fun k hk hR => ?_, h4, h5, h6, hb⟩, hb⟩
  rcases hR with hR | hR
  · exact h3 k hk hR
  · have := h1.lt k hk
    omega
theorem LR.same {w0 w : World} {p q : Nat} {s : St} (h : LR w0 w p q s s) (hm : s.mass ≤ 50000000) :
    Calls Try.prog 22 #[.pointer (some ⟨p, 0, none⟩), .pointer (some ⟨q, 0, none⟩)] w fun e w' => e = .returned (.bool true) ∧ Hid (Below w.heap.size w w') := by
  obtain ⟨F, R, h1, h2, _⟩ := h
  exact same_any p q s F R w h1 h2 hm
theorem LR.good {w0 w : World} {p q : Nat} {s r : St} (h : LR w0 w p q s r) : s.good := by
  obtain ⟨F, R, h1, _⟩ := h
  exact h1.good
theorem LR.bel {w0 w : World} {p q : Nat} {s r : St} (h : LR w0 w p q s r) : Below w0.heap.size w0 w := by
  obtain ⟨F, R, _, _, _, _, _, _, h⟩ := h
  exact h

theorem left_mass {s : St} (hg : s.good) (n t : Int) : mass (leftOf s n t) ≤ mass s.last + wmass s.wait := by
  unfold leftOf
  split
  · cases hc : s.wait[n.toNat]? with
    | none =>
      have h1 := run_mass (s.wait.take n.toNat) s.last hg.srt
      have h2 := wmass_take s.wait n.toNat
      simp only
      omega
    | some c =>
      have h1 := run_mass (s.wait.take n.toNat) s.last hg.srt
      have h2 := wmass_take s.wait (n.toNat + 1)
      rw [take_succ_snoc _ _ _ hc] at h2
      have h3 : wmass (s.wait.take n.toNat ++ [c]) = wmass (s.wait.take n.toNat) + c.mass := by simp [wmass]
      have hs := run_srt (s.wait.take n.toNat) s.last hg.srt
      simp only
      cases c with
      | app nn bb =>
        simp only [torn]
        split
        · omega
        · have h4 := ap_mass (.app nn (bb.take t.toNat)) hs
          simp only [Ch.mass, List.length_take] at h4 h3
          omega
      | cut nn k => simp only [torn]; omega
      | rem nn => simp only [torn]; omega
      | mov nn m => simp only [torn]; omega
  · omega

/-- Both crash: the two go on, and there are two more. -/
theorem LR.crash {w0 w : World} {p q : Nat} {s : St} (h : LR w0 w p q s s) (n t : Int) (hm : s.mass ≤ 50000000) :
    Calls Try.prog 20 #[.pointer (some ⟨p, 0, none⟩), .int .i64 n, .int .i64 t] w fun e w1 => ∃ p', e = .returned (.pointer (some ⟨p', 0, none⟩)) ∧ Hid (Below w.heap.size w w1) ∧ Hid (∀ u, Below w1.heap.size w1 u →
      Calls Try.prog 21 #[.pointer (some ⟨q, 0, none⟩), .int .i64 n, .int .i64 t] u fun e w2 => ∃ q', e = .returned (.pointer (some ⟨q', 0, none⟩)) ∧ Hid (Below w.heap.size w w2) ∧ Hid (LR w0 w2 p q s s ∧ LR w0 w2 p' q' ⟨s.room, leftOf s n t, []⟩ ⟨s.room, leftOf s n t, []⟩)) := by
  obtain ⟨F, R, h1, h2, h3, h4, h5, h6, h7⟩ := h
  refine (crash_any p s F n t w h1 (by omega)).mono ?_
  rintro e w1 ⟨p', rfl, hp, d1, b1⟩
  refine ⟨p', rfl, b1, fun u bu => ?_⟩
  have hbu : Below w.heap.size w u := b1.trans (bu.mono b1.size)
  refine (rcrash_any q s R n t u (h2.below hbu) h1.good hm).mono ?_
  rintro e w2 ⟨q', R', rfl, hq, d2, hR', b2⟩
  have hbw : Below w.heap.size w w2 := hbu.trans (b2.mono hbu.size)
  have h12 : Below w1.heap.size w1 w2 := bu.trans (b2.mono bu.size)
  have h0 : Below w0.heap.size w0 w2 := h7.trans (hbw.mono h7.size)
  have hs1 := b1.size
  have hsu := bu.size
  have hs0 := h7.size
  refine ⟨q', rfl, hbw, ⟨F, R, h1.below hbw, h2.below hbw, h3, h4, h5, h6, h0⟩, ext (fun _ => False) w w1, R', d1.below h12, d2, fun k hk hR => ?_, fun hk => ?_, fun k hk => ?_, by omega, h0⟩
  · rcases hk with hk | hk
    · exact hk.elim
    · rcases hR' k hR with hr | hr
      · have := h2.lt k hr
        omega
      · omega
  · rcases hk with hk | hk
    · exact hk.elim
    · omega
  · rcases hk with hk | hk
    · exact hk.elim
    · omega

theorem dSync (p : Nat) (s : St) (F : Nat → Prop) (w : World) (h : Dk w p s F) (hm : s.mass ≤ 50000000) :
    Calls Try.prog 17 #[.pointer (some ⟨p, 0, none⟩)] w fun e w' => e = .returned (.tuple #[]) ∧ Hid (DLeft w w' p ⟨s.room, s.now, []⟩ F) := (sync_any p s F w h (by omega)).mono fun _ _ ⟨he, h1, h2⟩ => ⟨he, h1, h2⟩
theorem RD.up {w w' : World} {q : Nat} {s : St} {R : Nat → Prop} (h : RD w' q s R) (hR : ∀ k, R k → k < w.heap.size) (hq : q < w.heap.size) (hs : w.heap.size ≤ w'.heap.size) : RD w' q s (ext R w w') := by
  obtain ⟨vl, vn, vw, zl, zn, ys, h2⟩ := h
  have hlt : ∀ k, ext R w w' k → k < w'.heap.size := ext_lt hR hs
  refine ⟨vl, vn, vw, zl, zn, ys, h2.heap, h2.fl.mono (fun _ hk => Or.inl hk) hlt, h2.fn.mono (fun _ hk => Or.inl hk) hlt, h2.wt.mono (fun _ hk => Or.inl hk), fun hk => ?_, h2.e1, h2.e2, h2.e3⟩
  rcases hk with hk | hk
  · exact h2.nq hk
  · omega
theorem rSync (q : Nat) (s : St) (R : Nat → Prop) (w : World) (h : RD w q s R) :
    Calls Try.prog 18 #[.pointer (some ⟨q, 0, none⟩)] w fun e w' => e = .returned (.tuple #[]) ∧ Hid (RLeft w w' q ⟨s.room, s.now, []⟩ R) := (rsync_any q s R w h).mono fun _ _ ⟨he, h1, h2⟩ => ⟨he, h1.up h.lt h.plt h2.size, h2⟩
theorem dRoom (p : Nat) (s : St) (F : Nat → Prop) (n : Int) (w : World) (h : Dk w p s F) :
    Calls Try.prog 19 #[.pointer (some ⟨p, 0, none⟩), .int .i64 n] w fun e w' => e = .returned (.tuple #[]) ∧ Hid (DLeft w w' p ⟨roomN n, s.last, s.wait⟩ F) := (room_set p s F n w h).mono fun _ _ ⟨he, h1, h2⟩ => ⟨he, h1.mono (fun _ hk => Or.inl hk) (ext_lt h.lt h2.size), h2⟩
/-- The document's room is written by the law itself. -/
theorem LR.room {w0 w : World} {p q : Nat} {s r : St} (h : LR w0 w p q s r) (x : Int) :
    (∃ u, w.cell? ⟨q, 3, none⟩ = some u) ∧ w.frozen? ⟨q, 3, none⟩ = false ∧ LR w0 (w.setCell ⟨q, 3, none⟩ (.int .i64 x)) p q s ⟨x, r.last, r.wait⟩ := by
  obtain ⟨F, R, h1, ⟨vl, vn, vw, zl, zn, ys, h2⟩, h3, h4, h5, h6, h7⟩ := h
  obtain ⟨c0, c1, c2, c3, cz⟩ := h2.cells
  have hone := Fr.one w q 3 (.int .i64 x)
  have hd : ∀ k, R k → ¬ k = q := fun k hk e => h2.nq (e ▸ hk)
  refine ⟨⟨_, c3⟩, cz 3, F, R, h1.kept hone (fun k hk e => h4 (e ▸ hk)), ⟨vl, vn, vw, zl, zn, ys, by rw [heap_set h2.heap]; rfl, h2.fl.kept hone hd, h2.fn.kept hone hd, h2.wt.kept hone hd, h2.nq, h2.e1, h2.e2, h2.e3⟩, h3, h4, h5, h6, ?_⟩
  exact h7.setCell h6 _

theorem after_mass (s : St) (kd : Nat) (nm t : ByteArray) (sz : Int) (b : List UInt8) : (s.after (verdict s kd nm t sz b).2).mass ≤ s.mass + b.length + 2 := by
  have key : ∀ o : Option Ch, (∀ c, o = some c → c.mass ≤ b.length + 1) → (s.after o).mass ≤ s.mass + b.length + 2 := fun o ho => by
    cases o with
    | none => simp only [St.after]; omega
    | some c =>
      have := ho c rfl
      simp only [St.after]
      rw [St.push_mass]
      omega
  apply key
  intro c hc
  unfold verdict at hc
  split at hc
  · split at hc
    · simp at hc
    · split at hc
      · simp at hc
      · split at hc
        · simp at hc
        · simp at hc; subst hc; simp [Ch.mass]
  · split at hc
    · simp at hc
    · split at hc
      · simp at hc
      · simp at hc; subst hc; simp [Ch.mass]
  · split at hc
    · simp at hc
    · simp at hc; subst hc; simp [Ch.mass]
  · split at hc
    · simp at hc
    · split at hc
      · simp at hc
      · simp at hc; subst hc; simp [Ch.mass]

set_option maxHeartbeats 400000 in
theorem cutS_any (a : ByteArray) (w : World) (ha : a.size ≤ maxLen) :
    Calls Try.prog 11 #[.string a, .int .i64 20] w fun e w' => ∃ a', e = .returned (.string a') ∧ Hid (a'.size ≤ 20) ∧ w' = w := by
  unfold maxLen at ha
  by_cases h : 20 < a.size
  · have h' : (20 : Int) < (a.size : Int) := by omega
    go_enter Try.func11, Try.ntmps11
    go_wp2
    go_ret
    refine ⟨_, rfl, ?_, rfl⟩
    show _ ≤ _
    simp
    omega
  · have h' : ¬ (20 : Int) < (a.size : Int) := by omega
    go_enter Try.func11, Try.ntmps11
    go_wp2
    go_ret
    exact ⟨_, rfl, (by show _ ≤ _; omega), rfl⟩
set_option maxHeartbeats 400000 in
theorem short_any (v : Value) (bs : List UInt8) (w : World) (h : Sl w v bs) :
    Calls Try.prog 12 #[v, .int .i64 200] w fun e w' => ∃ ao L cap b, e = .returned (.slice ao L cap) ∧ Hid (Sl w (.slice ao L cap) b ∧ b.length ≤ 200) ∧ w' = w := by
  obtain ⟨ao, cap, rfl, h1, h2⟩ := h.shape
  have h2' : cap ≤ 9223372036854775807 := h2
  have HS : Hid (Sl w (.slice ao bs.length cap) bs) := h
  clear h
  by_cases hl : 200 < bs.length
  · have hl' : (200 : Int) < (bs.length : Int) := by omega
    have hc : (200 : Int) ≤ (cap : Int) := by omega
    go_enter Try.func12, Try.ntmps12
    go_wp2
    all_goals go_ret
    all_goals exact ⟨_, _, _, bs.take 200, rfl, ⟨HS.out.take 200 (by omega), by rw [List.length_take]; omega⟩, rfl⟩
  · have hl' : ¬ (200 : Int) < (bs.length : Int) := by omega
    go_enter Try.func12, Try.ntmps12
    go_wp2
    go_ret
    first | exact ⟨_, _, _, bs, rfl, ⟨HS.out, by omega⟩, rfl⟩ | exact ⟨_, _, _, rfl, ⟨bs, HS.out, by omega⟩, rfl⟩ | exact ⟨_, _, _, rfl, ⟨bs, HS.out, by omega⟩⟩
end Go.Proofs.Ytleelemcmnlfiaa
namespace Go.Proofs.Ytleelemcmnlfiaa
open Go.RowKit

def LO (w0 w : World) (p q : Nat) (s r : St) (ob : Nat) (o : Obj) : Prop := ∃ F R, Dk w p s F ∧ RD w q r R ∧ (∀ k, F k → ¬ R k) ∧ ¬ F q ∧ (∀ k, F k → w0.heap.size ≤ k) ∧ w0.heap.size ≤ q ∧ Below w0.heap.size w0 w ∧ ¬ F ob ∧ ob ≠ q ∧ w.heap[ob]? = some o
section
variable {w0 w w' : World} {p q ob : Nat} {s r s' r' : St} {o : Obj}
theorem LO.lr (h : LO w0 w p q s r ob o) : LR w0 w p q s r := by
  obtain ⟨F, R, h1, h2, h3, h4, h5, h6, h7, _⟩ := h
  exact ⟨F, R, h1, h2, h3, h4, h5, h6, h7⟩
theorem LO.bel (h : LO w0 w p q s r ob o) : Below w0.heap.size w0 w := h.lr.bel
theorem LO.blk (h : LO w0 w p q s r ob o) : w.heap[ob]? = some o := by
  obtain ⟨F, R, _, _, _, _, _, _, _, _, _, h⟩ := h
  exact h
theorem LR.box (h : LR w0 w p q s r) (o : Obj) : LO w0 (w.alloc o) p q s r w.heap.size o := by
  have h' := h.below (bel_box w o)
  obtain ⟨F, R, h1, h2, h3, h4, h5, h6, h7⟩ := h
  refine ⟨F, R, h1.below (bel_box w o), h2.below (bel_box w o), h3, h4, h5, h6, h7.alloc h7.size o, fun hk => ?_, fun e => ?_, heap_alloc_new _ _⟩
  · have := h1.lt _ hk; omega
  · have := h2.plt; omega
theorem LO.below (h : LO w0 w p q s r ob o) (hb : Below w.heap.size w w') : LO w0 w' p q s r ob o := by
  have hl : ob < w.heap.size := (Array.getElem?_eq_some_iff.1 h.blk).1
  obtain ⟨F, R, h1, h2, h3, h4, h5, h6, h7, h8, h9, h10⟩ := h
  exact ⟨F, R, h1.below hb, h2.below hb, h3, h4, h5, h6, h7.trans (hb.mono h7.size), h8, h9, by rw [hb.block _ hl]; exact h10⟩
theorem LO.disk {f : FuncId} {args : Array Value} {v : Value} (h : LO w0 w p q s r ob o) (hc : ∀ F, Dk w p s F → Calls Try.prog f args w fun e w' => e = .returned v ∧ Hid (DLeft w w' p s' F)) :
    Calls Try.prog f args w fun e w' => e = .returned v ∧ Hid (LO w0 w' p q s' r ob o) := by
  have hl : ob < w.heap.size := (Array.getElem?_eq_some_iff.1 h.blk).1
  obtain ⟨F, R, h1, h2, h3, h4, h5, h6, h7, h8, h9, h10⟩ := h
  refine (hc F h1).mono ?_
  rintro e w' ⟨he, HL⟩
  obtain ⟨hD, hf⟩ := HL.out
  have hb : Below w0.heap.size w0 w' := h7.trans (hf.below h5 h7.size)
  refine ⟨he, ext F w w', R, hD, h2.kept hf (fun k hk hF => h3 k hF hk) h4, fun k hk hR => ?_, fun hk => ?_, ext_ge h5 h7.size, h6, hb, fun hk => ?_, h9, by rw [hf.block _ hl h8]; exact h10⟩
  · rcases hk with hk | hk
    · exact h3 k hk hR
    · have := h2.lt k hR
      omega
  · rcases hk with hk | hk
    · exact h4 hk
    · have := h2.plt
      omega
  · rcases hk with hk | hk
    · exact h8 hk
    · omega
theorem LO.ref {f : FuncId} {args : Array Value} {v : Value} (h : LO w0 w p q s r ob o) (hc : ∀ R, RD w q r R → Calls Try.prog f args w fun e w' => e = .returned v ∧ Hid (RLeft w w' q r' R)) :
    Calls Try.prog f args w fun e w' => e = .returned v ∧ Hid (LO w0 w' p q s r' ob o) := by
  have hl : ob < w.heap.size := (Array.getElem?_eq_some_iff.1 h.blk).1
  obtain ⟨F, R, h1, h2, h3, h4, h5, h6, h7, h8, h9, h10⟩ := h
  refine (hc R h2).mono ?_
  rintro e w' ⟨he, HL⟩
  obtain ⟨hD, hf⟩ := HL.out
  have hb : Below w0.heap.size w0 w' := h7.trans (hf.below (fun k hk => by rw [hk]; exact h6) h7.size)
  refine ⟨he, F, ext R w w', h1.kept hf (fun k hk e => h4 (e ▸ hk)), hD, fun k hk hR => ?_, h4, h5, h6, hb, h8, h9, by rw [hf.block _ hl h9]; exact h10⟩
  rcases hR with hR | hR
  · exact h3 k hk hR
  · have := h1.lt k hk
    omega
theorem LO.room (h : LO w0 w p q s r ob o) (x : Int) :
    (∃ u, w.cell? ⟨q, 3, none⟩ = some u) ∧ w.frozen? ⟨q, 3, none⟩ = false ∧ LO w0 (w.setCell ⟨q, 3, none⟩ (.int .i64 x)) p q s ⟨x, r.last, r.wait⟩ ob o := by
  have hl : ob < w.heap.size := (Array.getElem?_eq_some_iff.1 h.blk).1
  obtain ⟨F, R, h1, ⟨vl, vn, vw, zl, zn, ys, h2⟩, h3, h4, h5, h6, h7, h8, h9, h10⟩ := h
  obtain ⟨c0, c1, c2, c3, cz⟩ := h2.cells
  have hone := Fr.one w q 3 (.int .i64 x)
  have hd : ∀ k, R k → ¬ k = q := fun k hk e => h2.nq (e ▸ hk)
  refine ⟨⟨_, c3⟩, cz 3, F, R, h1.kept hone (fun k hk e => h4 (e ▸ hk)), ⟨vl, vn, vw, zl, zn, ys, by rw [heap_set h2.heap]; rfl, h2.fl.kept hone hd, h2.fn.kept hone hd, h2.wt.kept hone hd, h2.nq, h2.e1, h2.e2, h2.e3⟩, h3, h4, h5, h6, h7.setCell h6 _, h8, h9, by rw [hone.block _ hl h9]; exact h10⟩
end
/-- The block's cells. -/
def Oc (w : World) (ob : Nat) (kd n tn : Int) (nm t : ByteArray) (dv : Value) : Prop := w.cell? ⟨ob, 0, none⟩ = some (.int .i64 kd) ∧ w.cell? ⟨ob, 1, none⟩ = some (.int .i64 n) ∧ w.cell? ⟨ob, 2, none⟩ = some (.int .i64 tn) ∧ w.cell? ⟨ob, 3, none⟩ = some (.string nm) ∧ w.cell? ⟨ob, 4, none⟩ = some (.string t) ∧ w.cell? ⟨ob, 5, none⟩ = some dv
theorem oc_of {w : World} {ob : Nat} {kd n tn : Int} {nm t : ByteArray} {dv : Value} (h : w.heap[ob]? = some (.cells #[.int .i64 kd, .int .i64 n, .int .i64 tn, .string nm, .string t, dv] 34 (0, 0))) : Oc w ob kd n tn nm t dv := by
  refine ⟨?_, ?_, ?_, ?_, ?_, ?_⟩
  all_goals rw [cell_of_row w _ _ _ _ _ h]
  all_goals rfl
/-- What the round goes by: both disks, the block with its cells. -/
def LK (w0 w : World) (p q : Nat) (s r : St) (ob : Nat) (kd n tn : Int) (nm t : ByteArray) (dv : Value) : Prop := LO w0 w p q s r ob (.cells #[.int .i64 kd, .int .i64 n, .int .i64 tn, .string nm, .string t, dv] 34 (0, 0))
section
variable {w0 w w' : World} {p q ob : Nat} {s r : St} {kd n tn : Int} {nm t : ByteArray} {dv : Value} {b : List UInt8}
theorem LK.cells (h : LK w0 w p q s r ob kd n tn nm t dv) : Oc w ob kd n tn nm t dv := oc_of h.blk
theorem LK.below (h : LK w0 w p q s r ob kd n tn nm t dv) (hb : Below w.heap.size w w') : LK w0 w' p q s r ob kd n tn nm t dv := LO.below h hb
theorem LK.good (h : LK w0 w p q s r ob kd n tn nm t dv) : s.good := h.lr.good
theorem LK.disk {s' : St} {f : FuncId} {args : Array Value} {v : Value} (h : LK w0 w p q s r ob kd n tn nm t dv) (hc : ∀ F, Dk w p s F → Calls Try.prog f args w fun e w' => e = .returned v ∧ Hid (DLeft w w' p s' F)) :
    Calls Try.prog f args w fun e w' => e = .returned v ∧ Oc w' ob kd n tn nm t dv ∧ Hid (LK w0 w' p q s' r ob kd n tn nm t dv) :=
  (LO.disk h hc).mono fun _ _ ⟨he, HL⟩ => ⟨he, LK.cells HL.out, HL⟩
theorem LK.ref {r' : St} {f : FuncId} {args : Array Value} {v : Value} (h : LK w0 w p q s r ob kd n tn nm t dv) (hc : ∀ R, RD w q r R → Calls Try.prog f args w fun e w' => e = .returned v ∧ Hid (RLeft w w' q r' R)) :
    Calls Try.prog f args w fun e w' => e = .returned v ∧ Oc w' ob kd n tn nm t dv ∧ Hid (LK w0 w' p q s r' ob kd n tn nm t dv) :=
  (LO.ref h hc).mono fun _ _ ⟨he, HL⟩ => ⟨he, LK.cells HL.out, HL⟩
theorem LK.app (h : LK w0 w p q s r ob kd n tn nm t dv) (hS : Sl w0 dv b) (hm : s.mass + b.length + 2 ≤ 50000000) :
    Calls Try.prog 13 #[.pointer (some ⟨p, 0, none⟩), .string nm, dv] w fun e w' => e = .returned (.int .i64 (verdict s 0 nm t n b).1) ∧ Oc w' ob kd n tn nm t dv ∧ Hid (LK w0 w' p q (s.after (verdict s 0 nm t n b).2) r ob kd n tn nm t dv) :=
  h.disk fun F hD => dApp_verdict p s F nm t n dv b w hD (hS.below h.bel) hm
theorem LK.cut (h : LK w0 w p q s r ob kd n tn nm t dv) (hm : s.mass + b.length + 2 ≤ 50000000) :
    Calls Try.prog 14 #[.pointer (some ⟨p, 0, none⟩), .string nm, .int .i64 n] w fun e w' => e = .returned (.int .i64 (verdict s 1 nm t n b).1) ∧ Oc w' ob kd n tn nm t dv ∧ Hid (LK w0 w' p q (s.after (verdict s 1 nm t n b).2) r ob kd n tn nm t dv) :=
  h.disk fun F hD => dCut_verdict p s F nm t n b w hD hm
theorem LK.rem (h : LK w0 w p q s r ob kd n tn nm t dv) (hm : s.mass + b.length + 2 ≤ 50000000) :
    Calls Try.prog 15 #[.pointer (some ⟨p, 0, none⟩), .string nm] w fun e w' => e = .returned (.int .i64 (verdict s 2 nm t n b).1) ∧ Oc w' ob kd n tn nm t dv ∧ Hid (LK w0 w' p q (s.after (verdict s 2 nm t n b).2) r ob kd n tn nm t dv) :=
  h.disk fun F hD => dRem_verdict p s F nm t n b w hD hm
theorem LK.mov (h : LK w0 w p q s r ob kd n tn nm t dv) (hm : s.mass + b.length + 2 ≤ 50000000) :
    Calls Try.prog 16 #[.pointer (some ⟨p, 0, none⟩), .string nm, .string t] w fun e w' => e = .returned (.int .i64 (verdict s 3 nm t n b).1) ∧ Oc w' ob kd n tn nm t dv ∧ Hid (LK w0 w' p q (s.after (verdict s 3 nm t n b).2) r ob kd n tn nm t dv) :=
  h.disk fun F hD => dMov_verdict p s F nm t n b w hD hm
/-- The document's disk does it too. -/
theorem LK.rdo (c : Nat) (h : LK w0 w p q s r ob kd n tn nm t dv) (hg : r.good) (hS : Sl w0 dv b) (hn : nm.size ≤ 20) (ht : t.size ≤ 20) (hm : r.mass + b.length + 2 ≤ 50000000) (hc : c ≤ 3) :
    Calls Try.prog 23 #[.pointer (some ⟨q, 0, none⟩), .agg #[.int .i64 (c : Int), .string nm, .string t, .int .i64 n, dv]] w fun e w' => e = .returned (.int .i64 (verdict r c nm t n b).1) ∧ Oc w' ob kd n tn nm t dv ∧ Hid (LK w0 w' p q s (r.after (verdict r c nm t n b).2) ob kd n tn nm t dv) :=
  h.ref fun R hR => rDo_verdict q r R c nm t n dv b w hR hg (hS.below h.bel) (by omega) (by omega) hm hc
theorem LK.same (h : LK w0 w p q s s ob kd n tn nm t dv) (hm : s.mass ≤ 50000000) :
    Calls Try.prog 22 #[.pointer (some ⟨p, 0, none⟩), .pointer (some ⟨q, 0, none⟩)] w fun e w' => e = .returned (.bool true) ∧ Oc w' ob kd n tn nm t dv ∧ Hid (LK w0 w' p q s s ob kd n tn nm t dv) :=
  (LR.same h.lr hm).mono fun _ _ ⟨he, hb⟩ => ⟨he, (h.below hb.out).cells, h.below hb.out⟩
theorem LK.sync (h : LK w0 w p q s r ob kd n tn nm t dv) (hm : s.mass ≤ 50000000) :
    Calls Try.prog 17 #[.pointer (some ⟨p, 0, none⟩)] w fun e w' => e = .returned (.tuple #[]) ∧ Oc w' ob kd n tn nm t dv ∧ Hid (LK w0 w' p q ⟨s.room, s.now, []⟩ r ob kd n tn nm t dv) :=
  h.disk fun F hD => dSync p s F w hD hm
theorem LK.rsync (h : LK w0 w p q s r ob kd n tn nm t dv) :
    Calls Try.prog 18 #[.pointer (some ⟨q, 0, none⟩)] w fun e w' => e = .returned (.tuple #[]) ∧ Oc w' ob kd n tn nm t dv ∧ Hid (LK w0 w' p q s ⟨r.room, r.now, []⟩ ob kd n tn nm t dv) :=
  h.ref fun R hR => rSync q r R w hR
theorem LK.droom (h : LK w0 w p q s r ob kd n tn nm t dv) (x : Int) :
    Calls Try.prog 19 #[.pointer (some ⟨p, 0, none⟩), .int .i64 x] w fun e w' => e = .returned (.tuple #[]) ∧ Oc w' ob kd n tn nm t dv ∧ Hid (LK w0 w' p q ⟨roomN x, s.last, s.wait⟩ r ob kd n tn nm t dv) :=
  h.disk fun F hD => dRoom p s F x w hD
end
end Go.Proofs.Ytleelemcmnlfiaa
namespace Go.Proofs.Ytleelemcmnlfiaa
open Go.RowKit

def nmA : ByteArray := ⟨#[97]⟩
def nmB : ByteArray := ⟨#[98]⟩
def sA : St := ⟨100, [], [.app nmA [120, 121, 122]]⟩
theorem sA_now : sA.now = [⟨nmA, [120, 121, 122]⟩] := rfl
theorem sA_left : leftOf sA ((0 : Nat) : Int) 2 = [⟨nmA, [120, 121]⟩] := by first | rfl | simp [leftOf, sA, torn, ap, look, del, ins, run]
theorem look_A : look nmA (⟨100, [⟨nmA, [120, 121]⟩], []⟩ : St).now = some ⟨nmA, [120, 121]⟩ := by first | rfl | simp [St.now, look, run]
theorem look_B : look nmB sA.now = none := by first | rfl | decide +kernel | simp [St.now, look, run, sA]

set_option maxHeartbeats 2000000 in
set_option maxRecDepth 20000 in
theorem begun_any (w : World) : Calls Try.prog 8 #[] w fun e w' => e = .returned (.bool true) ∧ Below w.heap.size w w' := by
  have HN : Hid (_) := new_any 100 w
  go_enter Try.func8, Try.ntmps8
  go_wp2_with fail
  refine Calls.mono HN.out ?_
  rintro e w1 ⟨rfl, hD1, hb1⟩
  have hcv := Lib.run_convert_bytes_const (P := Try.prog) w1 32 5 #[.int .u8 120, .int .u8 121, .int .u8 122] 3 3 Try.underlying32 Try.underlying5
  have hba : Below w1.heap.size w1 (w1.alloc (.cells #[.int .u8 120, .int .u8 121, .int .u8 122] 5 (3, 4))) := (Below.refl _ _).alloc (Nat.le_refl _) _
  have hSa : Sl (w1.alloc (.cells #[.int .u8 120, .int .u8 121, .int .u8 122] 5 (3, 4))) _ [120, 121, 122] := sl_new w1 #[.int .u8 120, .int .u8 121, .int .u8 122] [120, 121, 122] 5 (3, 4) rfl (by decide)
  have hDa := hD1.below hba
  have HA : Hid (Calls Try.prog 13 #[.pointer (some ⟨w.heap.size, 0, none⟩), .string nmA, .slice (some ⟨w1.heap.size, 0, none⟩) 3 3] (w1.alloc (.cells #[.int .u8 120, .int .u8 121, .int .u8 122] 5 (3, 4))) fun e w2 => e = .returned (.int .i64 0) ∧ (∃ F2, Hid (Dk w2 w.heap.size sA F2)) ∧ Hid (Below w.heap.size w w2)) := by
    refine (append_ok w.heap.size ⟨roomN 100, [], []⟩ _ nmA _ [120, 121, 122] _ hDa hSa (by decide +kernel) (by decide +kernel) (Or.inr (by decide)) (by decide)).mono ?_
    rintro e w2 ⟨rfl, k1, k2⟩
    refine ⟨rfl, ⟨_, k1⟩, ?_⟩
    have hbb : Below w.heap.size w (w1.alloc (.cells #[.int .u8 120, .int .u8 121, .int .u8 122] 5 (3, 4))) := hb1.trans (hba.mono hb1.size)
    refine hbb.trans (k2.below (fun k hk => ?_) hbb.size)
    rcases hk with hk | hk
    · exact hk.elim
    · exact hk.1
  have HB : Hid (_) := hb1
  clear hD1 hDa hSa hba hb1
  simp only [nmA] at HA
  go_wp2_with fail
  clear hcv
  refine Calls.mono HA.out ?_
  rintro e w2 ⟨rfl, ⟨F2, HD2⟩, HB2⟩
  clear HA
  have HC : Hid (_) := crash_nat w.heap.size sA _ 0 2 w2 HD2.out (by decide)
  rw [sA_left] at HC
  go_wp2_with fail
  refine Calls.mono HC.out ?_
  rintro e w3 ⟨q, rfl, hq, hD3, hb3⟩
  have HB3 : Hid (Below w.heap.size w w3) := HB2.out.trans (hb3.mono HB2.out.size)
  have HD3 : Hid (_) := hD3
  have HP3 : Hid (Dk w3 w.heap.size sA F2) := Dk.below HD2.out hb3
  have HR : Hid (_) := read_hit q _ _ nmA ⟨nmA, [120, 121]⟩ w3 hD3 look_A (by decide)
  simp only [nmA] at HR
  clear HC hD3 hb3 hq
  go_wp2_with fail
  refine Calls.mono HR.out ?_
  rintro e w4 ⟨v4, rfl, hO4, hb4⟩
  have hst := str_of_sl (P := Try.prog) (Sl.of_own (bs := [120, 121]) hO4) 32 5 9 Try.underlying32 Try.underlying5 Try.underlying9
  obtain ⟨ao4, L4, cap4, rfl⟩ := own_slice hO4
  have HB4 : Hid (Below w.heap.size w w4) := HB3.out.trans (hb4.mono HB3.out.size)
  have HP4 : Hid (Dk w4 w.heap.size sA F2) := Dk.below HP3.out hb4
  have HU : Hid (_) := used_any w.heap.size sA _ w4 HP4.out (by decide)
  clear HR hO4 hb4
  go_wp2_with fail
  refine Calls.mono HU.out ?_
  rintro e w5 ⟨rfl, hb5⟩
  have HB5 : Hid (Below w.heap.size w w5) := HB4.out.trans (hb5.mono HB4.out.size)
  have HP5 : Hid (Dk w5 w.heap.size sA F2) := Dk.below HP4.out hb5
  have hu3 : ((used sA.now : Nat) : Int) = 3 := rfl
  rw [hu3]
  have HW : Hid (_) := waiting_any w.heap.size sA _ w5 HP5.out
  clear HU hb5 hu3
  go_wp2_with fail
  refine Calls.mono HW.out ?_
  rintro e w6 ⟨rfl, hw⟩
  have hw' := hw.symm
  subst hw'
  have hw1 : ((sA.wait.length : Nat) : Int) = 1 := rfl
  rw [hw1]
  have HM : Hid (_) := remove_none w.heap.size sA _ nmB w5 HP5.out look_B (by decide)
  simp only [nmB] at HM
  clear HW hw hw1
  go_wp2_with fail
  refine Calls.mono HM.out ?_
  rintro e w7 ⟨rfl, hb7⟩
  have HB7 : Hid (Below w.heap.size w w7) := HB5.out.trans (hb7.mono HB5.out.size)
  have HP7 : Hid (Dk w7 w.heap.size sA F2) := Dk.below HP5.out hb7
  have HL : Hid (_) := names_any w.heap.size sA _ w7 HP7.out (by decide)
  clear HM hb7
  go_wp2_with fail
  refine Calls.mono HL.out ?_
  rintro e w8 ⟨v8, rfl, hO8, hb8⟩
  have HB8 : Hid (Below w.heap.size w w8) := HB7.out.trans (hb8.mono HB7.out.size)
  rcases own_shape hO8 with ⟨_, h0⟩ | ⟨g8, cap8, rfl, _⟩
  · exact absurd h0 (by decide)
  have hl1 : sA.now.length = 1 := rfl
  rw [hl1]
  clear HL hO8 hb8 hl1
  go_wp2
  go_ret
  exact ⟨rfl, HB8.out⟩

set_option maxHeartbeats 400000 in
theorem none17 (w : World) : Calls Try.prog 17 #[.pointer none] w fun e w' => e = .returned (.tuple #[]) ∧ w' = w := by
  go_enter Try.func17, Try.ntmps17
  go_wp2
  exact bodyPost_ret (results_none rfl _ _ _) rfl ⟨rfl, rfl⟩
set_option maxHeartbeats 400000 in
theorem none19 (w : World) : Calls Try.prog 19 #[.pointer none, .int .i64 5] w fun e w' => e = .returned (.tuple #[]) ∧ w' = w := by
  go_enter Try.func19, Try.ntmps19
  go_wp2
  exact bodyPost_ret (results_none rfl _ _ _) rfl ⟨rfl, rfl⟩
set_option maxHeartbeats 400000 in
theorem none24 (w : World) : Calls Try.prog 24 #[.pointer none, .string ⟨#[97]⟩] w fun e w' => e = .returned (.tuple #[.slice none 0 0, .bool false]) ∧ w' = w := by
  go_enter Try.func24, Try.ntmps24
  go_wp2
  go_ret2
  exact ⟨rfl, rfl⟩
set_option maxHeartbeats 400000 in
theorem none13 (w : World) : Calls Try.prog 13 #[.pointer none, .string ⟨#[97]⟩, .slice none 0 0] w fun e w' => e = .returned (.int .i64 1) ∧ w' = w := by
  go_enter Try.func13, Try.ntmps13
  go_wp2
  go_ret
  exact ⟨rfl, rfl⟩
set_option maxHeartbeats 400000 in
theorem none14 (w : World) : Calls Try.prog 14 #[.pointer none, .string ⟨#[97]⟩, .int .i64 0] w fun e w' => e = .returned (.int .i64 1) ∧ w' = w := by
  go_enter Try.func14, Try.ntmps14
  go_wp2
  go_ret
  exact ⟨rfl, rfl⟩
set_option maxHeartbeats 400000 in
theorem none15 (w : World) : Calls Try.prog 15 #[.pointer none, .string ⟨#[97]⟩] w fun e w' => e = .returned (.int .i64 1) ∧ w' = w := by
  go_enter Try.func15, Try.ntmps15
  go_wp2
  go_ret
  exact ⟨rfl, rfl⟩
set_option maxHeartbeats 400000 in
theorem none16 (w : World) : Calls Try.prog 16 #[.pointer none, .string ⟨#[97]⟩, .string ⟨#[98]⟩] w fun e w' => e = .returned (.int .i64 1) ∧ w' = w := by
  go_enter Try.func16, Try.ntmps16
  go_wp2
  go_ret
  exact ⟨rfl, rfl⟩
set_option maxHeartbeats 400000 in
theorem none26 (w : World) : Calls Try.prog 26 #[.pointer none] w fun e w' => e = .returned (.slice none 0 0) ∧ w' = w := by
  go_enter Try.func26, Try.ntmps26
  go_wp2
  go_ret
  exact ⟨rfl, rfl⟩
set_option maxHeartbeats 400000 in
theorem none27 (w : World) : Calls Try.prog 27 #[.pointer none] w fun e w' => e = .returned (.int .i64 0) ∧ w' = w := by
  go_enter Try.func27, Try.ntmps27
  go_wp2
  go_ret
  exact ⟨rfl, rfl⟩
set_option maxHeartbeats 400000 in
theorem none28 (w : World) : Calls Try.prog 28 #[.pointer none] w fun e w' => e = .returned (.int .i64 0) ∧ w' = w := by
  go_enter Try.func28, Try.ntmps28
  go_wp2
  go_ret
  exact ⟨rfl, rfl⟩
set_option maxHeartbeats 400000 in
theorem none20 (w : World) : Calls Try.prog 20 #[.pointer none, .int .i64 0, .int .i64 0] w fun e w' => e = .returned (.pointer none) ∧ w' = w := by
  go_enter Try.func20, Try.ntmps20
  go_wp2
  go_ret
  exact ⟨rfl, rfl⟩

set_option maxHeartbeats 2000000 in
set_option maxRecDepth 20000 in
theorem diskNone_any (w : World) : Calls Try.prog 5 #[] w fun e w' => e = .returned (.bool true) ∧ Below w.heap.size w w' := by
  have HB : Hid (_) := begun_any w
  go_enter Try.func5, Try.ntmps5
  go_wp2_with (first
    | (go_at_call 8; refine Calls.mono HB.out ?_; rintro e w1 ⟨rfl, hb1⟩)
    | (go_at_call 17; refine (none17 _).mono ?_; rintro e w' ⟨rfl, hw⟩; have hw' := hw.symm; subst hw'; clear hw)
    | (go_at_call 19; refine (none19 _).mono ?_; rintro e w' ⟨rfl, hw⟩; have hw' := hw.symm; subst hw'; clear hw)
    | (go_at_call 24; refine (none24 _).mono ?_; rintro e w' ⟨rfl, hw⟩; have hw' := hw.symm; subst hw'; clear hw)
    | (go_at_call 13; refine (none13 _).mono ?_; rintro e w' ⟨rfl, hw⟩; have hw' := hw.symm; subst hw'; clear hw)
    | (go_at_call 14; refine (none14 _).mono ?_; rintro e w' ⟨rfl, hw⟩; have hw' := hw.symm; subst hw'; clear hw)
    | (go_at_call 15; refine (none15 _).mono ?_; rintro e w' ⟨rfl, hw⟩; have hw' := hw.symm; subst hw'; clear hw)
    | (go_at_call 16; refine (none16 _).mono ?_; rintro e w' ⟨rfl, hw⟩; have hw' := hw.symm; subst hw'; clear hw)
    | (go_at_call 26; refine (none26 _).mono ?_; rintro e w' ⟨rfl, hw⟩; have hw' := hw.symm; subst hw'; clear hw)
    | (go_at_call 27; refine (none27 _).mono ?_; rintro e w' ⟨rfl, hw⟩; have hw' := hw.symm; subst hw'; clear hw)
    | (go_at_call 28; refine (none28 _).mono ?_; rintro e w' ⟨rfl, hw⟩; have hw' := hw.symm; subst hw'; clear hw)
    | (go_at_call 20; refine (none20 _).mono ?_; rintro e w' ⟨rfl, hw⟩; have hw' := hw.symm; subst hw'; clear hw))
  go_ret
  exact ⟨rfl, hb1⟩
end Go.Proofs.Ytleelemcmnlfiaa
