/-
  The law MetaTorn: all ways.
-/
import Derived.Test.YtpklapgcdilghaaDoorLawMTorn
import Derived.Test.YtpklapgcdilghaaDoorLawMTornB
import Derived.Test.YtpklapgcdilghaaDoorLawMTornC
set_option linter.unusedVariables false
set_option maxRecDepth 100000
namespace Go.Proofs.YtpklapgcdilghaaDoor
open Go.RowKit

theorem torn_new {g r n d : Nat} (h : MRight g r n d) (hg : g % 2 = 1) {t : List UInt8} (ht : mG t 0 < g) : newG t (mPage g r n d) = g ∧ newR t (mPage g r n d) = r ∧ newN t (mPage g r n d) = n ∧ newD t (mPage g r n d) = d := by
  obtain ⟨_, b1, b2, b3, b4⟩ := page_is h (no := 1) (by omega)
  unfold newG newR newN newD
  rw [b1, b2, b3, b4, if_pos ht, if_pos ht, if_pos ht, if_pos ht]
  exact ⟨rfl, rfl, rfl, rfl⟩
theorem torn_new2 {g r n d : Nat} (h : MRight g r n d) (hg : g % 2 = 0) {t : List UInt8} (ht : mG t 1 < g) : newG (mPage g r n d) t = g ∧ newR (mPage g r n d) t = r ∧ newN (mPage g r n d) t = n ∧ newD (mPage g r n d) t = d := by
  obtain ⟨_, b1, b2, b3, b4⟩ := page_is h (no := 0) (by omega)
  have h1 : ¬ g < mG t 1 := by omega
  unfold newG newR newN newD
  rw [b1, b2, b3, b4, if_neg h1, if_neg h1, if_neg h1, if_neg h1]
  exact ⟨rfl, rfl, rfl, rfl⟩
theorem seal_lit {w : World} (hT : Tab w) {g r n d : Nat} (h : MRight g r n d) {m : Nat} (hm : g % 2 = m) : Calls Tryd.prog 7 #[.agg #[.int .i64 (g : Int), .int .i64 (r : Int), .int .i64 (n : Int), .int .i64 (d : Int)]] w (MSQ w 512 (mPage g r n d) (m : Int) 0) := by
  have h1 := mseal_q hT h
  rw [hm] at h1
  exact h1
/-- What Newest tells, where the newest one is known. -/
theorem new_lit {w : World} (hT : Tab w) {a b : List UInt8} (ha : 512 = a.length) (hb : 512 = b.length) {G R N D : Nat} (h : newG a b = G ∧ newR a b = R ∧ newN a b = N ∧ newD a b = D) {q p : Option Addr} {c d : Nat} (h1 : Bs w q a) (h2 : 512 ≤ c) (h3 : c ≤ 9223372036854775807) (h4 : Bs w p b) (h5 : 512 ≤ d) (h6 : d ≤ 9223372036854775807) :
    Calls Tryd.prog 11 #[.slice q 512 c, .slice p 512 d] w (MNewPost w G R N D) := by
  have h7 := mNewest_any hT h1 ha h2 h3 h4 hb h5 h6
  obtain ⟨e1, e2, e3, e4⟩ := h
  rw [e1, e2, e3, e4] at h7
  exact h7

theorem lawMTorn_any {w : World} (hT0 : Tab w) (ag aR an ad bg bR bn bd n : Int) :
    Calls Tryd.prog 5 #[.agg #[.int .i64 ag, .int .i64 aR, .int .i64 an, .int .i64 ad], .agg #[.int .i64 bg, .int .i64 bR, .int .i64 bn, .int .i64 bd], .int .i64 n] w fun e w' => e = .returned (.bool true) ∧ Below w.heap.size w w' := by
  have hT : ∀ w', Below w.heap.size w w' → Tab w' := fun w' hb => hT0.below hT0.lt hb
  obtain ⟨x1, e1, b1⟩ := mand_low ag 24 16777215 (by decide) (by omega)
  obtain ⟨x2, e2, b2⟩ := mand_low aR 8 255 (by decide) (by omega)
  obtain ⟨x3, e3, b3⟩ := mand_low an 16 65535 (by decide) (by omega)
  obtain ⟨x4, e4, b4⟩ := mand_low ad 16 65535 (by decide) (by omega)
  obtain ⟨y2, f2, c2⟩ := mand_low bR 8 255 (by decide) (by omega)
  obtain ⟨y3, f3, c3⟩ := mand_low bn 16 65535 (by decide) (by omega)
  obtain ⟨y4, f4, c4⟩ := mand_low bd 16 65535 (by decide) (by omega)
  obtain ⟨k, e5, hk⟩ := mand_low n 9 511 (by decide) (by omega)
  obtain ⟨GA, hGA⟩ : ∃ g, g = 1 + x1 := ⟨_, rfl⟩
  obtain ⟨RA, hRA⟩ : ∃ g, g = 2 + x2 := ⟨_, rfl⟩
  obtain ⟨NA, hNA⟩ : ∃ g, g = 1 + x3 := ⟨_, rfl⟩
  obtain ⟨DA, hDA⟩ : ∃ g, g = 1 + x4 := ⟨_, rfl⟩
  obtain ⟨GB, hGB⟩ : ∃ g, g = GA + 1 := ⟨_, rfl⟩
  obtain ⟨RB, hRB⟩ : ∃ g, g = 2 + y2 := ⟨_, rfl⟩
  obtain ⟨NB, hNB⟩ : ∃ g, g = 1 + y3 := ⟨_, rfl⟩
  obtain ⟨DB, hDB⟩ : ∃ g, g = 1 + y4 := ⟨_, rfl⟩
  obtain ⟨GE, hGE⟩ : ∃ g, g = x1 := ⟨_, rfl⟩
  have ha : MRight GA RA NA DA := MRight.mk' (by omega)
  have hb : MRight GB RB NB DB := MRight.mk' (by omega)
  have lx := (mPage_length GA RA NA DA).symm
  have ly := (mPage_length GB RB NB DB).symm
  by_cases h0 : GE = 0
  · have pa : GA % 2 = 1 := by omega
    have pb : GB % 2 = 0 := by omega
    have lu : 512 = (List.replicate 512 (0 : UInt8)).length := by rw [List.length_replicate]
    have lt := (torn_length ly.symm lu.symm (k := k) (by omega)).symm
    have hn2 := new_pages hb pb ha pa
    rw [if_neg (by omega), if_neg (by omega), if_neg (by omega), if_neg (by omega)] at hn2
    rcases torn_gen hb lu.symm zeros_gen.1 zeros_gen.2 (k := k) (by omega) 0 with h | h
    · exact mtorn_01 ag aR an ad bg bR bn bd n hT e1 e2 e3 e4 f2 f3 f4 e5 hk b1 b2 b3 b4 c2 c3 c4 (by omega) (by omega) (by omega) (by omega) (by omega) (by omega) (by omega) (by omega) (by omega) (by omega) lx ly lu lt rfl
        (fun w' hw => seal_lit (hT w' hw) ha pa) (fun w' hw => seal_lit (hT w' hw) hb pb) rfl
        (fun w' q c p d hw => new_lit (hT w' hw) lt lx (torn_new ha pa (by omega))) (fun w' q c p d hw => new_lit (hT w' hw) ly lx hn2)
    · have hn1 := hn2
      rw [← h] at hn1
      exact mtorn_02 ag aR an ad bg bR bn bd n hT e1 e2 e3 e4 f2 f3 f4 e5 hk b1 b2 b3 b4 c2 c3 c4 (by omega) (by omega) (by omega) (by omega) (by omega) (by omega) (by omega) (by omega) (by omega) (by omega) lx ly lu lt rfl
        (fun w' hw => seal_lit (hT w' hw) ha pa) (fun w' hw => seal_lit (hT w' hw) hb pb) rfl h
        (fun w' q c p d hw => new_lit (hT w' hw) lt lx hn1) (fun w' q c p d hw => new_lit (hT w' hw) ly lx hn2)
  have he : MRight GE (0 : Nat) (1 : Nat) (1 : Nat) := MRight.mk' (by omega)
  have lu := (mPage_length GE 0 1 1).symm
  have lt := (torn_length ly.symm lu.symm (k := k) (by omega)).symm
  obtain ⟨u5, u39⟩ := under_gen he
  by_cases pa : GA % 2 = 1
  · have pb : GB % 2 = 0 := by omega
    have pe : GE % 2 = 0 := by omega
    have hn2 := new_pages hb pb ha pa
    rw [if_neg (by omega), if_neg (by omega), if_neg (by omega), if_neg (by omega)] at hn2
    rcases torn_gen hb lu.symm u5 u39 (k := k) (by omega) 0 with h | h
    · exact mtorn_11 ag aR an ad bg bR bn bd n hT e1 e2 e3 e4 f2 f3 f4 e5 hk b1 b2 b3 b4 c2 c3 c4 (by omega) (by omega) (by omega) (by omega) (by omega) (by omega) (by omega) (by omega) (by omega) (by omega) h0 lx ly lu lt rfl
        (fun w' hw => seal_lit (hT w' hw) ha pa) (fun w' hw => seal_lit (hT w' hw) hb pb) (fun w' hw => seal_lit (hT w' hw) he pe)
        (fun w' q c p d hw => new_lit (hT w' hw) lt lx (torn_new ha pa (by omega))) (fun w' q c p d hw => new_lit (hT w' hw) ly lx hn2)
    · have hn1 := hn2
      rw [← h] at hn1
      exact mtorn_12 ag aR an ad bg bR bn bd n hT e1 e2 e3 e4 f2 f3 f4 e5 hk b1 b2 b3 b4 c2 c3 c4 (by omega) (by omega) (by omega) (by omega) (by omega) (by omega) (by omega) (by omega) (by omega) (by omega) h0 lx ly lu lt rfl
        (fun w' hw => seal_lit (hT w' hw) ha pa) (fun w' hw => seal_lit (hT w' hw) hb pb) (fun w' hw => seal_lit (hT w' hw) he pe) h
        (fun w' q c p d hw => new_lit (hT w' hw) lt lx hn1) (fun w' q c p d hw => new_lit (hT w' hw) ly lx hn2)
  · have pa0 : GA % 2 = 0 := by omega
    have pb : GB % 2 = 1 := by omega
    have pe : GE % 2 = 1 := by omega
    have hn2 := new_pages ha pa0 hb pb
    rw [if_pos (by omega), if_pos (by omega), if_pos (by omega), if_pos (by omega)] at hn2
    rcases torn_gen hb lu.symm u5 u39 (k := k) (by omega) 1 with h | h
    · exact mtorn_21 ag aR an ad bg bR bn bd n hT e1 e2 e3 e4 f2 f3 f4 e5 hk b1 b2 b3 b4 c2 c3 c4 (by omega) (by omega) (by omega) (by omega) (by omega) (by omega) (by omega) (by omega) (by omega) (by omega) h0 lx ly lu lt rfl
        (fun w' hw => seal_lit (hT w' hw) ha pa0) (fun w' hw => seal_lit (hT w' hw) hb pb) (fun w' hw => seal_lit (hT w' hw) he pe)
        (fun w' q c p d hw => new_lit (hT w' hw) lx lt (torn_new2 ha pa0 (by omega))) (fun w' q c p d hw => new_lit (hT w' hw) lx ly hn2)
    · have hn1 := hn2
      rw [← h] at hn1
      exact mtorn_22 ag aR an ad bg bR bn bd n hT e1 e2 e3 e4 f2 f3 f4 e5 hk b1 b2 b3 b4 c2 c3 c4 (by omega) (by omega) (by omega) (by omega) (by omega) (by omega) (by omega) (by omega) (by omega) (by omega) h0 lx ly lu lt rfl
        (fun w' hw => seal_lit (hT w' hw) ha pa0) (fun w' hw => seal_lit (hT w' hw) hb pb) (fun w' hw => seal_lit (hT w' hw) he pe) h
        (fun w' q c p d hw => new_lit (hT w' hw) lx lt hn1) (fun w' q c p d hw => new_lit (hT w' hw) lx ly hn2)

end Go.Proofs.YtpklapgcdilghaaDoor
