package pad_test

import (
	"crypto/sha256"
	"encoding/binary"
	"encoding/hex"
	"fmt"
	"math/big"
	"slices"
	"testing"

	"marlinspike/api"
	"marlinspike/pad"
)

// What follows was worked out apart from the program, by the document's words: by
// numbers of any length, from X on.

// ruled is a circuit of a sketch: of a matrix of n entries the j-th one is at the place
// j Rows Cols / n, if places are counted row by row, and a power of 2, 3, 5, by matrix,
// by 37 (j + 1).
func ruled(x sketch) api.Circuit {
	c := api.Circuit{Rows: uint32(x.rows), Cols: uint32(x.cols), Inputs: uint32(x.inputs)}
	for i, m := range matrices(&c) {
		count := []int{x.a, x.b, x.c}[i]
		for j := range count {
			place := j * x.rows * x.cols / count
			val := raised(whole([]int64{2, 3, 5}[i]), 37*(j+1))
			*m = append(*m, at(place/x.cols, place%x.cols, val))
		}
	}
	return c
}

// powers are so many of a number, by 0, step, 2 step, ..
func powers(k int64, step, count int) (l []*big.Int) {
	for j := range count {
		l = append(l, raised(whole(k), step*j))
	}
	return l
}

// digest is SHA-256's of bytes, which are too many to be told.
func digest(b []byte) string {
	s := sha256.Sum256(b)
	return hex.EncodeToString(s[:])
}

// digestOf is that of numbers, of 32 bytes each.
func digestOf(l []*big.Int) string {
	return digest(slices.Concat(all(l, func(k *big.Int) []byte { return k.FillBytes(make([]byte, 32)) })...))
}

// digestOfPlaces is that of places, of 2 bytes each.
func digestOfPlaces(l []int) string {
	return digest(slices.Concat(all(l, func(place int) []byte { return binary.BigEndian.AppendUint16(nil, uint16(place)) })...))
}

// digestOfEntries is that of entries: of each its row and place, of 2 bytes each, and
// its scalar's bytes.
func digestOfEntries(m []api.Entry) string {
	return digest(slices.Concat(all(m, func(x api.Entry) []byte {
		b := binary.BigEndian.AppendUint16(nil, uint16(x.Row))
		return append(binary.BigEndian.AppendUint16(b, uint16(x.Col)), x.Val[:]...)
	})...))
}

// apart is a sketch; of its ruled circuit N, X and M, and of how many matrices the
// padded entries stand in another order than the circuit's; the places; A's, B's and C's
// padded entries; what powers of 7 by 0, 41, 82, .. are laid as; all sums over these, and
// over powers of 11 by 0, 13, 26, ..
type apart struct {
	sketch
	n, x, m, moved int
	places         string
	entries        []string
	laid           string
	sums, others   []string
}

func allApart() []apart {
	return []apart{
		{
			sketch{1, 1, 1, 1, 1, 1}, 2, 1, 2, 0,
			"96a296d224f285c67bee93c30f8a309157f0daa35dc5b87e410b78630a09cfc7",
			[]string{"d5fc5ebaddd500139eb19427e1c3401c972785e952fe659a2abe05a396f6b539", "06c2090e8ad7b2c5758d8210337d359ee4479c38bbc08c9b85f831dd47b20c34", "4e3c468f40f022409ca015a4bba95af290a7ab5e54692c2f8d7b6e04964b2331"},
			"58e8f2a1f78f0a591feb75aebecaaa81076e4290894b1c445cc32953604db089",
			[]string{"467f92db569c7931096f19de0e29d17010ca82c3b50e85fed08cb2d85b0b8f97", "18d85d110de8929508543adca5d109c36861761294b074e8eb01a61a70f01d08", "b6863f51233f59dc170975d83e91900e61a57c1d93bde04fb55dded77bc48b7d"},
			[]string{"467f92db569c7931096f19de0e29d17010ca82c3b50e85fed08cb2d85b0b8f97", "18d85d110de8929508543adca5d109c36861761294b074e8eb01a61a70f01d08", "b6863f51233f59dc170975d83e91900e61a57c1d93bde04fb55dded77bc48b7d"},
		},
		{
			sketch{1, 3, 2, 2, 3, 1}, 4, 2, 4, 1,
			"4f1366f56ad5b2ebd9738248a63d9d90bbb3b4b2eac3b74713c6bfd852477802",
			[]string{"ccca81cd860d2cfadf27a6b87cd6236bc80be68b8076aa55115ae0e710683eb7", "f2c7511ec5d451c21a3a8ae9904cacb011ab684aaf1678e76158396842b81115", "4e3c468f40f022409ca015a4bba95af290a7ab5e54692c2f8d7b6e04964b2331"},
			"c89f32338b72d693a077c09ce3c55f1abe055899d136b8080e007749e07b5fd7",
			[]string{"c48aca5364c9b53d873c862a2e91ead672c25b4ca6689bd7cc34a32a5963d3e7", "e2915bb24c2163d09c3ab3f20b7f2224fb0cea36ea031ed82f399db320b49557", "f4bf48f6d85ee8987ffb6fa3f5a5b9dc62c8dbad4a3264be370605ead5589a04"},
			[]string{"23ed94168e03ecbcbce0f887cf798de0f290e4bd63fffc63c20865068b75eb4b", "0b26ff26f66952f5b082c5ede9e6086aa9ccaf40e59021c54d550b42b7d650aa", "f4bf48f6d85ee8987ffb6fa3f5a5b9dc62c8dbad4a3264be370605ead5589a04"},
		},
		{
			sketch{4, 5, 2, 7, 9, 3}, 8, 2, 16, 2,
			"d1a75ab808c4f924669f8e59956e4b4dfb7a7f42321d77dd2f8ea02813511f4d",
			[]string{"76d3f9d1e9a9cf82f8424047789d2eed8ea50ee1cc14741835e3420a4c7b5c1c", "922debc719fd09739c0f4c8066dac2347133fa720e246b27e7dc2741a673bbbc", "098f6c733573f2124c884bc5ff93fc2b8e7b147159c3aff33f084225a16f1bd7"},
			"256c16766c895c6e32b33bc95bd3b55568ad342a4dc6a1c9aca6fb92f00d504f",
			[]string{"0586d7b7cbb42a28b05df6c1133a8612ea94e07a8fa240ba53820313d68ce324", "a333be16a2070c5005b4388ca22343d382add8e8151cedd0ff3e0b14cdd92040", "dc03a815cc60066d6feb3c709f5bc12f1ae2a02a849fe9c7090ae22da696b2b1"},
			[]string{"a00372d4beb0813087ddf97c83d03f0699cf31a1795d954629fda62a8db6ede6", "1df8d0ea059a19d8bd2a8c15a36242a1de6bf00522c24dd7742ea822b6e0cd6f", "89252fd905717edecf2daac796a7335ea4418b56a9b5c341631e8a9bec80f83e"},
		},
		{
			sketch{3, 8, 8, 0, 4, 24}, 16, 8, 32, 0,
			"0776d4215554ddc64bf5d6874a7ab6b91411b5badae3efbabbaa34cdba541fe2",
			[]string{"e3b0c44298fc1c149afbf4c8996fb92427ae41e4649b934ca495991b7852b855", "ba39f7be8686def706e574c464ad398ec539dc3c3fe2270cea5ad3ce82f08cc2", "34291310ac54003d41f90c598a356b466b7fa78640d0c17d4baadc944b4743fc"},
			"7097e3572280b7a41c1cd2ee5030175b55e38308fa55bdb751b0219d9cb6c9b9",
			[]string{"076a27c79e5ace2a3d47f9dd2e83e4ff6ea8872b3c2218f66c92b89b55f36560", "9d184fd648faa56d6fbfbc3060b988d41a183c67cc02b7c3c356cc3446fd5d38", "a878b2bf594f1a16778d5c909621d41a80ce0be1e5a4d86bc5ff2dfcfabf3b1f"},
			[]string{"076a27c79e5ace2a3d47f9dd2e83e4ff6ea8872b3c2218f66c92b89b55f36560", "7b401bc305ed24ffdccd85e2ec74b36541fff93ad0fa912d66d55b52d237f7fc", "7426f3c2ec786476dd0f92a619b6d2108e7407fc980674e96758a5490ad63cf7"},
		},
		{
			sketch{6, 2, 1, 12, 0, 5}, 8, 1, 16, 0,
			"b40711a88c7039756fb8a73827eabe2c0fe5a0346ca7e0a104adc0fc764f528d",
			[]string{"3c954ed9a9325be2fd0f5eacdedfd30d88bc7e5b3a1839e08d7aba854c5f6471", "e3b0c44298fc1c149afbf4c8996fb92427ae41e4649b934ca495991b7852b855", "6eb771d9d8b53a2a843f89c9932a4280d5e32f285dbb391ccd3f51e6e5a2d79e"},
			"0b18c03a5185dd8685d0ea15d91a8971c4696c0b5733f00e60c23bd8b0aa0179",
			[]string{"de044e933a939a7b7e3aaf62f8d3aeed0d2dc9f6b3e5064d34b8bea13f76a314", "5341e6b2646979a70e57653007a1f310169421ec9bdd9f1a5648f75ade005af1", "57000bb6581614e2367b38d9f55baee8c71f503f83e02b99ea318500d23b72a2"},
			[]string{"6bd5027bd0761fa3469bcf78fe96337268c144cff1a2d14bbd47b29a57ef3514", "5341e6b2646979a70e57653007a1f310169421ec9bdd9f1a5648f75ade005af1", "a70614a73aff0f3060e41f654524b191ccb3ec9b50d639c846ab9eb6b28ba17a"},
		},
		{
			sketch{17, 11, 4, 60, 41, 33}, 32, 4, 64, 3,
			"f15553dcf3cc3441548fba7eccc4dbc93609e29cd6dfd08771a60f544dc264c0",
			[]string{"101eaf0b373e5fbafe15faec49062f110d84d3fe576200e309ad041bff4240ae", "b019897dac8d6ab097a07f59be5747765a3278b077d005298039c5e61bca9fe9", "3b2e658da82533fcdda3718ec679a4431819ac987ef786fc8a9d6caeb3c8582c"},
			"b4a9435b440c68fd2c476d3eeeb2329db781c2bd8fab633ecd42625a68675870",
			[]string{"a40e44d057099322e195286c86d2c7be649679a1b80a6b1303ed260d2be64262", "23a78dbe06e1826ac501bc9975fcfc558a41bdbb81fd3de3afefde77eff3cd19", "3249d1c95fc49968f9b3833fe3a8fa40f51e6fb1db9474ea770922815f4075a6"},
			[]string{"9b062ffdd2594f13adbe6361810739495de662ff8da229964bcb59436d6d7fab", "7ff67effd6ec4014b7a35cee9989b4281a3282ef1b2905047a733b8e4f5391d5", "cd6bc40362d46ce6ce0e1366d37116301513231bb8d19c23662171a1757ee84c"},
		},
		{
			sketch{5, 20, 3, 100, 64, 65}, 32, 4, 128, 3,
			"6fe6e6c060f046a5c2f7fbf92e9051f178b68e313849a6db6c64145bf17e764d",
			[]string{"7fbc7d53599c1e53b75a598ca74f4c6cd2bddcedd0240c8e52b48c0140a429a3", "2e5170c476690435119f2724b9d1899bdb70ca13e7c655f11f4466fcc256e0df", "68c99619cec4f63e22927e0303c2b1a954b8eb47c6e516410be074611a313c38"},
			"9ad1bfcfb3bf3183a73721ada4ff308007a5778ebb24978db3f7eb40e2867428",
			[]string{"7ccb05f973a98b55746cbf8826404657af3c143f0c874f3ab19e7d9fe7cb03d7", "2018df56a487d2cd92ef9ef3c55b97f9d347352fd5fce1e66a96ce9102917a7b", "d1f282b4620475f9364d15e29023f9c0bd0a4c9261aab10b38e7c95a4bcf61a2"},
			[]string{"a3d666d2f9e1b6796253f5c2a1950e85075be06bd9829310638854f7fde92fc5", "1dd75ff797df8dfc74e8f4a0dd26bd485a0012b66fab5c4eea7906b473592695", "31ddb51d788a3b098cf26e1d4965597bc2aa3b537732685c99fca070bb9be889"},
		},
		{
			sketch{9, 40, 33, 128, 0, 129}, 128, 64, 256, 2,
			"a04ec7777ec8d6875ee55b4c8d303da402c4dfd99647ea89c68e5a0621b7684f",
			[]string{"8308e1749b031ff0ee4fd5d3b0daf5e29b1dd5d9993a590222a11712fa2c7511", "e3b0c44298fc1c149afbf4c8996fb92427ae41e4649b934ca495991b7852b855", "879bd2d8762d8bc73145fdde6179a339de55269b5be3761acb2c794e6ed710f8"},
			"15b16c58c2dd56da883e0a628157c498c39ac4cd97cec0b3d85513af1cbae74a",
			[]string{"9a912d162fb7e5607ab54a2dbc191dbf6c613ec606df806b3552c108e8e8af6f", "ad7facb2586fc6e966c004d7d1d16b024f5805ff7cb47c7a85dabd8b48892ca7", "df494c82cd5eebf677d870506e0d3e5d5d0c92abe1f96d1d8efb6525097d10c2"},
			[]string{"69e22be153c81fd31de9bdbf091c17c8bf02c5e12f201e063f496da252f5188d", "ad7facb2586fc6e966c004d7d1d16b024f5805ff7cb47c7a85dabd8b48892ca7", "87eeb24e5cb223963aa7870a9f481ac2b5b323680f3c4aa330ea74450eb1e3db"},
		},
		{
			sketch{1024, 1024, 100, 4096, 4096, 4096}, 2048, 128, 4096, 0,
			"e5051703d2a91bb265e1f84b0f0e78c339a7cd667779019978eb8b951f1de4d9",
			[]string{"fbfeb53cd22481af4a45483ef7588bd077bcc2c0ae325a4819de9c1e4d927552", "2c42a59f26ce05f6330b23eccbaaf0709ae5037e9d7b06edf64f71afe41d92ec", "aecc9378410d7fe040eb6b24165d2d63ffc0a8688ae14928a6edeab330062843"},
			"a3c3e4e773c60d342a9b65129c72770c0aaa81c58819b0dafe20064c8bb5dcd8",
			[]string{"222defa32f784e52f8a39882513b165929c6b8f0c2d226d118468fb5b5d45d83", "5eded5bbadf5303fbdaf7c242caa846547efa3327b59a9d650ae0c423e5ccbe1", "e9e7742fd3af4eed3288a7f1a343ce3c721c8574965153b983a1b5316fa3d390"},
			[]string{"1c3d633a28c2362e61cb5a35318cbcc09877f67c10b6369845d734f472022392", "64b66c60fc4442c1351f32c719485016bd462d4febd0b1548b1650a016f4f89d", "5c01541b1cfc004642116836b59f04a0fd40c92f69f903ef92ea35f1fb977705"},
		},
		{
			sketch{1024, 1, 1, 1024, 1000, 3}, 1024, 1, 1024, 0,
			"96a296d224f285c67bee93c30f8a309157f0daa35dc5b87e410b78630a09cfc7",
			[]string{"cd233376d59c369188121269b5cdccd80cf92f5282c9d8057e90b604b299681c", "c7bdfdc68df86e6a1436386a938bd4bf728479229c8f28c6e5e7b0e108eb1f08", "03f3f2f4dcf7a02eea082db50b3d769d3f812a96b3d88e5bf24b6084b0476be9"},
			"df35b9c1788db62aa90c9f3cbf03d79122af19689b89e9efd6323ad6e1721653",
			[]string{"1d72e560d7f4a23c8a527ba5c0265b291cdb5fd1f43127d5ea266cd6b82071b8", "b5decbbc26194eecc494a4d372ef0477ca49a313e6c1314a3a0e0f55dab2d37a", "b40230920546b587553305b0325efa06c010d68f3a763809c963256714aa10c6"},
			[]string{"1d72e560d7f4a23c8a527ba5c0265b291cdb5fd1f43127d5ea266cd6b82071b8", "b5decbbc26194eecc494a4d372ef0477ca49a313e6c1314a3a0e0f55dab2d37a", "b40230920546b587553305b0325efa06c010d68f3a763809c963256714aa10c6"},
		},
		{
			sketch{1, 1024, 1024, 1024, 5, 1000}, 2048, 1024, 1024, 0,
			"a559b0869fab5035d10597d02ffa4ef8b11422b8d9d0b125bae18d4d2f040e6f",
			[]string{"d86cce58f1806f2d749e276cbe1dc4c364291198ddd8429624946a479217a0af", "178780d6a9f3e48878aa08ee74ac367177c2d080fc0240df2bb076d3c2698348", "c5eab1b8fff81e4cb114b76d6ee0286a70bd3a4ad0e5ef78c1b07c8643fa9eaf"},
			"dc87080c3ce0dedcf7e92b566124cd94b3a5f26ce598959558253f25c99abcd5",
			[]string{"a6b0f9dce899ceda255ef2f063bc21afc85b674e88bb18602566703ca5c6fbe2", "c2b112eb7f0c615c319769d641deab064001a86a5150ec84d805fc3e94634a16", "6b8769bbd397409eb27c1acf394ef736c52c46f32c46d571d2813562f1f152bd"},
			[]string{"dd39a89dd4071880d60667629d0fd6654938a3fae343543c2d3b6ac3ad193b52", "be0cb4d433e8b36ee9cdf76df05eeeda2a5a13f23a2ddecc23863cf27c84ebc3", "ec3f18d5f81c7cac3c9e01cdfe565b7cf92bfcb0b10eef8483b76e9139a3c523"},
		},
		{
			sketch{700, 1024, 513, 2048, 4095, 2049}, 2048, 1024, 4096, 3,
			"44a56447af224df176722a291ea8753ad326e2ba2f65c678bfd8bab5c3a0e6ea",
			[]string{"02c8334a27bae895320f2f3ebddced76feae08018d14c5f9e93c1297ca35e275", "982957eea4d7beeddd7b9f1ff60d2da6dd8c4691dd63dae650f3f49fabe1053e", "f8d557ea81d41e651c4e300f351d451ce47bf80ebf54ad7c739f50b66e7182b6"},
			"cd597905ca86e279befbab6d5a723ef1ab5704a6250fd7c6d194bdee8d9b7b1c",
			[]string{"a4c85053d5ccc07d60b1c4e789b54afc9fbfea56edba7824922a0c5c216158a8", "0af3f8fb8846725f0571830e0bd0ac2b802025b9e16d0b22188dce80623975c8", "8f75c03849eb86ec617a1b771f36a02a7be4e1088f24e457068ff9f31f8a0fe2"},
			[]string{"3034eb678e31cb9a401c439eadbbe0cb6cddd4559ae86b3fbb3047e922098fca", "7ad2f430f0d56d20bcbfe71bfdcdd82183b7b6dda26631466f8dd5850a6e5621", "d9c209a6aef33ce497e4b8d68077c039f0c7e118ff315d313ca57e067cc3de5d"},
		},
	}
}

// wantApart fails if something is not what was worked out.
func wantApart(t *testing.T, what, got, wanted string) {
	t.Helper()
	if got != wanted {
		t.Errorf("%s: %s, not %s", what, got, wanted)
	}
}

// What the tests hold the program against is held against what was worked out apart.
func TestModel(t *testing.T) {
	for i, x := range allApart() {
		c := ruled(x.sketch)
		if e := fault(c); e != api.OK {
			t.Errorf("%d: %v", i, e)
		}
		s := shapeOf(c)
		wantShapeApart(t, fmt.Sprint(i), s, c, x)
		laid := spreadOf(s, powers(7, 41, x.cols))
		wantApart(t, fmt.Sprint(i, ", laid"), digestOf(laid), x.laid)
		for k := range 3 {
			wantApart(t, fmt.Sprint(i, ", sums, ", k), digestOf(sums(s.Rows[k], s.N, laid)), x.sums[k])
			wantApart(t, fmt.Sprint(i, ", other sums, ", k), digestOf(sums(s.Rows[k], s.N, powers(11, 13, s.N))), x.others[k])
		}
	}
}

// wantShapeApart fails if a shape is not what was worked out.
func wantShapeApart(t *testing.T, what string, s pad.Shape, c api.Circuit, x apart) {
	t.Helper()
	moved := 0
	for k, m := range matrices(&c) {
		wantApart(t, fmt.Sprint(what, ", entries, ", k), digestOfEntries(s.Rows[k]), x.entries[k])
		if !slices.EqualFunc(s.Rows[k], *m, func(a, b api.Entry) bool { return a.Val == b.Val }) {
			moved++
		}
	}
	if s.N != x.n || s.X != x.x || s.M != x.m || s.Inputs != x.inputs || moved != x.moved {
		t.Errorf("%s: %s, of which %d are in another order", what, brief(s), moved)
	}
	wantApart(t, what+", places", digestOfPlaces(s.Places), x.places)
}

func TestToldApart(t *testing.T) {
	for i, x := range allApart() {
		c := ruled(x.sketch)
		s := padOf(t, c)
		wantShapeApart(t, fmt.Sprint(i), s, c, x)
		laid := spread(t, s, els(powers(7, 41, x.cols)))
		wantApart(t, fmt.Sprint(i, ", laid"), digestOf(backs(laid)), x.laid)
		for k := range 3 {
			wantApart(t, fmt.Sprint(i, ", sums, ", k), digestOf(backs(applied(t, s, k, laid))), x.sums[k])
			others := els(powers(11, 13, s.N))
			wantApart(t, fmt.Sprint(i, ", other sums, ", k), digestOf(backs(applied(t, s, k, others))), x.others[k])
		}
	}
}
