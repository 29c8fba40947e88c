/-
  lex: the document's answer: the number of a word.
-/
import Derived.Test.YtoineheocipmaaaDoorLexRV
namespace Go.Proofs.YtoineheocipmaaaDoor
open Go.RowKit
set_option linter.unusedVariables false
set_option linter.unusedSimpArgs false

theorem bytes_inj_ {a b : ByteArray} (h : a.data.toList = b.data.toList) : a = b := by
  cases a; cases b
  congr
  exact Array.toList_inj.1 h
theorem two_pre (s : ByteArray) (h : 1 < s.size) (a b : UInt8) : ((s.extract 0 2).toList == [a, b]) = Lib.hasPrefix s.data.toList [a, b] := by
  have e : (s.extract 0 2).toList = s.data.toList.take 2 := by rw [Lib.toList_data]; simp
  have hl : s.data.toList.length = s.size := by simp
  rw [e]
  unfold Lib.hasPrefix
  rcases hd : s.data.toList with _ | ⟨x, _ | ⟨y, r⟩⟩
  · rw [hd] at hl; simp at hl; omega
  · rw [hd] at hl; simp at hl; omega
  · rw [Bool.eq_iff_iff]; simp [List.isPrefixOf]; constructor <;> (rintro ⟨rfl, rfl⟩; exact ⟨rfl, rfl⟩)
end Go.Proofs.YtoineheocipmaaaDoor
