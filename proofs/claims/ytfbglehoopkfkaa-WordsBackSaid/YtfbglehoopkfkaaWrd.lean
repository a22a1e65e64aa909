/- What package words comes to: all six. Conditions: texts of at most 100,000 bytes, lists of at most 1,000 texts, of at most 100,000 bytes together. -/
import Derived.Test.YtfbglehoopkfkaaWrdA
import Derived.Test.YtfbglehoopkfkaaWrdD
